/- Texts put together: GetImpl2, GetSpec2, GetTop2. -/
import Derived.Test.YtmkpakhpjgocjaaCz28
import Derived.Test.YtmkpakhpjgocjaaCz13
import Derived.Maps.OwnOps
import Derived.Test.YtmkpakhpjgocjaaCz27
import Derived.BigRegion
/- The walk of impl.CodeGet. -/
namespace Go.Proofs.Ytmkpakhpjgocjaa.Bi
open Go.RowKit Go.Maps
open Go.WideMaps (keyOf_string_mk string_of_keyOf)
open Go.Proofs.Ytmkpakhpjgocjaa.In (Ints IsI OwnIn made_ints)
open Go.Proofs.Ytmkpakhpjgocjaa.Nu (ret_strJ)

theorem Try.infoG2 : (Try.prog.info? 2).map (fun i => (i.zero, i.size, i.bytes)) = some (some (.int .i64 0), 1, 8) := by kernel_rfl
/-- the numbers got so far, in their row -/
def fill (xs : List Int) (m : Nat) : List Int := xs ++ List.replicate (m - xs.length) 0
theorem fill_length (xs : List Int) (m : Nat) (h : xs.length ≤ m) : (fill xs m).length = m := by simp [fill]; omega
theorem fill_next (xs : List Int) (m : Nat) (x : Int) (h : xs.length < m) : (fill xs m).set xs.length x = fill (xs ++ [x]) m := by
  unfold fill
  rw [List.set_append, if_neg (by omega), Nat.sub_self, List.length_append]
  obtain ⟨d, hd⟩ : ∃ d, m - xs.length = d + 1 := ⟨m - xs.length - 1, by omega⟩
  rw [hd, show m - (xs.length + [x].length) = d by simp; omega, List.replicate_succ, List.set_cons_zero]
  simp
theorem fill_all (xs : List Int) (m : Nat) (h : xs.length = m) : fill xs m = xs := by simp [fill, h]
theorem fill_none (m : Nat) : fill [] m = List.replicate m 0 := by simp [fill]
/-- the answer's own variable -/
def Out0 (w : World) (g : Nat) : Prop := w.heap[g]? = some (.cells #[.slice none 0 0, .int .i64 0, .int .i64 0] 37 (0, 0))
theorem Out0.c0 {w : World} {g : Nat} (h : Out0 w g) : w.cell? ⟨g, 0, none⟩ = some (.slice none 0 0) := (cell_of_row w g 0 _ _ _ h).trans rfl
theorem Out0.c1 {w : World} {g : Nat} (h : Out0 w g) : w.cell? ⟨g, 1, none⟩ = some (.int .i64 0) := (cell_of_row w g 1 _ _ _ h).trans rfl
theorem Out0.c2 {w : World} {g : Nat} (h : Out0 w g) : w.cell? ⟨g, 2, none⟩ = some (.int .i64 0) := (cell_of_row w g 2 _ _ _ h).trans rfl
theorem Out0.fr {w : World} {g : Nat} (h : Out0 w g) (j : Nat) : w.frozen? ⟨g, j, none⟩ = false := frozen_of_row w g j _ _ h
theorem Out0.lt {w : World} {g : Nat} (h : Out0 w g) : g < w.heap.size := (Array.getElem?_eq_some_iff.1 h).1
theorem Out0.below {w w' : World} {g B : Nat} (h : Out0 w g) (b : Below B w w') (hg : g < B) : Out0 w' g := by unfold Out0; rw [b.block g hg]; exact h
theorem Out0.set {w : World} {g : Nat} (h : Out0 w g) (a : Addr) (v : Value) (ha : g ≠ a.block) : Out0 (w.setCell a v) g := by unfold Out0; rw [heap_setCell_other w a g v ha]; exact h
theorem Out0.new (w : World) : Out0 (w.alloc (.cells #[.slice none 0 0, .int .i64 0, .int .i64 0] 37)) w.heap.size := heap_alloc_last w _

set_option maxRecDepth 100000 in
set_option maxHeartbeats 1000000 in
theorem get_yes (l : List Int) (t : ByteArray) (m : Nat) (a : Option Addr) (cap : Nat) (w : World) (hl : Ints w w.heap.size a l) (h4 : ¬ 400 < l.length) (h8 : ¬ 8000 < t.size) (hw : whole l = true) (hg : good t = true) (hm : m ≤ 400) :
    Calls Try.prog 17 #[.slice a l.length cap, .string t, .int .i64 m] w fun e w' => ∃ v, e = .returned (.agg #[v, .int .i64 (outS (st l t m)).2.1, .int .i64 (outS (st l t m)).2.2]) ∧ OwnIn w' w.heap.size w'.heap.size v (outS (st l t m)).1 ∧ Below w.heap.size w w' := by
  obtain ⟨i0, hi0, hz0, hz1, hz2⟩ := info_parts Try.infoG2
  have hd4 : decide (400 < (l.length : Int)) = false := decide_eq_false (by omega)
  have hd8 : decide (8000 < (t.size : Int)) = false := decide_eq_false (by omega)
  have hdm : decide ((m : Int) < 0) = false := decide_eq_false (by omega)
  have hdm4 : decide ((400 : Int) < m) = false := decide_eq_false (by omega)
  obtain ⟨W0, hW0⟩ : ∃ W0, W0 = w.alloc (.cells #[.slice none 0 0, .int .i64 0, .int .i64 0] 37) := ⟨_, rfl⟩
  have z0 : W0.heap.size = w.heap.size + 1 := by rw [hW0]; simp
  have B0 := hideB (show Below w.heap.size w W0 by rw [hW0]; exact (Below.refl _ _).alloc (Nat.le_refl _) _)
  have O0 := hideB (show Out0 W0 w.heap.size by rw [hW0]; exact Out0.new w)
  have hl0 := (hl.below B0.out).mono B0.out.size
  have HWH := hideB (whole_impl l a cap W0.heap.size W0 hl0 (by omega))
  rw [hw] at HWH
  have HGO := hideB (good_impl t W0 (by omega))
  rw [hg] at HGO
  have HSY := hideB (symbols_any l a cap W0 hl0 (whole_right hw))
  have HR := hideB (whole_right hw)
  clear hl hl0 hw hg h4
  obtain ⟨n, hln⟩ : ∃ n, n = l.length := ⟨_, rfl⟩
  have HLN := hideB hln
  rw [← hln] at hd4 HWH HSY ⊢
  clear hln
  go_enter Try.func17, Try.ntmps17
  go_wp2_with fail
  rw [← hW0]
  have HW0 := hideB hW0
  clear hW0
  refine HWH.out.mono ?_
  rintro e w' ⟨rfl, hw'⟩
  subst w'
  go_wp2_with fail
  refine HGO.out.mono ?_
  rintro e w' ⟨rfl, hw'⟩
  subst w'
  go_wp2_with fail
  refine HSY.out.mono ?_
  rintro e w1 ⟨D, rfl, hown1, hcm, hb1⟩
  have M1 := hideB hown1
  have HCM := hideB hcm
  have B1 := hideB (B0.out.trans (hb1.mono (by omega)))
  have O1 := hideB (O0.out.below hb1 (by omega))
  have z1 : W0.heap.size < w1.heap.size := hown1.lt
  clear hown1 hcm hb1 HWH HGO HSY
  obtain ⟨b, hb⟩ : ∃ b, b = W0.heap.size := ⟨_, rfl⟩
  rw [← hb] at z0 z1 M1 ⊢
  have zb : w.heap.size < b := by omega
  clear z0
  clear hb HW0 O0 B0
  go_wp2_with (at_make; refine wpList_make_full _ rfl (.tmp 40) (.tmp 40) 23 rfl w1.heap.size 2 i0 (.int .i64 0) 1 Try.underlying23 hi0 hz0 hz1 .i64 .i64 _ _ m rfl rfl (by simp) (by simp) (by rw [hz2]; omega) (by unfold maxLen; omega) (Nat.le_refl _) ?_; intro w2 hown2 hgrow2; have R2 := hideB (made_ints hown2); have b2 := (Below.refl w1.heap.size w1).grown hgrow2 (Nat.le_refl _) (by simp); have B2 := hideB (B1.out.trans (b2.mono B1.out.size)); have O2 := hideB (O1.out.below b2 (by omega)); have M2 := hideB (M1.out.kept hgrow2 (by simp)); clear hown2 hgrow2 b2)
  go_loopw [43, 9] (fun i at_ wr => ∃ (k p : Nat) (xs : List Int), i = .int .i64 k ∧ at_ = .int .i64 p ∧ k ≤ m ∧ st l t k = .inr (xs, p) ∧ wr.ownsMap Try.prog 9 (plainElem Try.prog 2) b n D ∧ IsI wr w1.heap.size 2 (fill xs m) ∧ Out0 wr w.heap.size ∧ Below w.heap.size w wr) (fun i _ _ => m - (intOf i).toNat)
  case atStart => exact ⟨0, 0, [], rfl, rfl, Nat.zero_le _, rfl, M2.out, by rw [fill_none]; exact R2.out, O2.out, B2.out⟩
  case round =>
    obtain ⟨k, p, xs, rfl, rfl, hk, hst, hown, hi, ho, hbel⟩ := hrel
    have HST := hideB hst
    have M3 := hideB hown
    have I3 := hideB hi
    have O3 := hideB ho
    have B3 := hideB hbel
    obtain ⟨hps, hxl⟩ := st_facts k p xs hst
    have HXL := hideB hxl
    clear hst hown hi ho hbel hxl
    by_cases hlt : k < m
    · have hpi : (p : Int) ≤ t.size := by omega
      have HFI := hideB (first_any l (rst t p) b n D wr M3.out (by rw [← HLN.out]; exact HCM.out) HR.out (by rw [rst_size]; omega))
      have HRE : Hid (rst t p = t.extract p t.size) := rfl
      cases hs : sym l (rst t p) with
      | none =>
        have HT : Hid (symT l (rst t p) = ⟨#[]⟩) := by
          unfold Hid symT
          rw [hs]
        rw [HT.out, HRE.out] at HFI
        have HB := hideB (st_bad HST.out hs)
        have HE : Hid (outS (st l t m) = ([], 0, why l (rst t p))) := by
          have h1 := st_stay HB.out (m - (k + 1))
          rw [show k + 1 + (m - (k + 1)) = m by omega] at h1
          unfold Hid
          rw [h1]
          rfl
        have HWY := hideB (why_any l (rst t p) b n b D wr M3.out (by rw [← HLN.out]; exact HCM.out) (Nat.le_refl _) (Nat.le_of_lt M3.out.lt))
        rw [HRE.out] at HWY HE
        generalize why l (t.extract p t.size) = wy at HWY HE
        clear hs
        go_wp2_with fail
        refine HFI.out.mono ?_
        rintro e w' ⟨rfl, hw'⟩
        subst w'
        go_wp2_with fail
        refine HWY.out.mono ?_
        rintro e w4 ⟨rfl, hb4⟩
        have O4 := hideB (O3.out.below hb4 (by omega))
        have B4 := hideB (B3.out.trans (hb4.mono (by omega)))
        have c0 := O4.out.c0
        have c1 := O4.out.c1
        have c2 := O4.out.c2
        have f0 := O4.out.fr 0
        have f1 := O4.out.fr 1
        have f2 := O4.out.fr 2
        clear hb4
        go_wp2_with fail
        refine bodyPost_ret (v := .agg #[.slice none 0 0, .int .i64 0, .int .i64 wy]) (by simp [results, Try.results17, go_sem, c0, c1, c2]) rfl ⟨.slice none 0 0, ?_, ?_, ?_⟩
        · rw [HE.out]
        · rw [HE.out]
          exact .inl ⟨rfl, rfl⟩
        · exact ((B4.out.setCell (Nat.le_refl _) _).setCell (Nat.le_refl _) _).setCell (Nat.le_refl _) _
      | some i =>
        have HT : Hid (symT l (rst t p) = codeOf l i) := by
          unfold Hid symT
          rw [hs]
        have hmt := sym_mt hs
        have HSM := hideB (st_more HST.out hs)
        have HCO := hideB (codeOf_size l i)
        have hcl := codeOf_le l (within_yes (right_yes HR.out).1).2 i
        have HAT := hideB (HCM.out.2 i (by rw [HLN.out]; exact hmt.1) hmt.1 hmt.2.1)
        have hw1 : 1 ≤ wd l i := by have := hmt.2.1; unfold wd; omega
        rw [show (l.getD i 0).toNat = wd l i from rfl] at HCO
        rw [← HCO.out] at HSM hw1
        rw [HT.out, HRE.out] at HFI
        obtain ⟨c, hc⟩ : ∃ c, c = codeOf l i := ⟨_, rfl⟩
        rw [← hc] at HFI HSM hw1 hcl HAT
        have hne : c.toList.isEmpty = false := nonempty c hw1
        have hkey : keyOf Try.prog 9 (.string c) = some (kl c) := keyOf_string_mk Try.underlying9 (by unfold maxLen; omega)
        have hkf : k < (fill xs m).length := by rw [fill_length xs m (by have := HXL.out; omega)]; exact hlt
        have cf := I3.out.frozen k
        obtain ⟨v0, ce⟩ : ∃ v0, wr.cell? ⟨w1.heap.size, k, none⟩ = some (.int .i64 v0) := ⟨_, I3.out.cell hkf⟩
        have HFN : Hid ((fill xs m).set k (i : Int) = fill (xs ++ [(i : Int)]) m) := by
          have h1 := HXL.out
          unfold Hid
          rw [← h1]
          exact fill_next xs m i (by omega)
        have hown := M3.out
        clear hs hmt hc hkf HT
        go_wp2_with fail
        refine HFI.out.mono ?_
        rintro e w' ⟨rfl, hw'⟩
        subst w'
        go_wp2_with (first | (at_lookup; refine wpList_lookup_own_int _ rfl _ _ 75 rfl 9 2 .i64 lawS Try.underlying75 Try.underlying2 (zeroI _) b n D rfl hown _ _ rfl hkey ?_; intro c' hat hwc; have hci : c' = (i : Int) := (by rw [HAT.out] at hat; simpa using hat.symm); subst hci; clear hat hwc))
        go_wp2_with fail
        go_roundw
        case rel => exact ⟨k + 1, p + c.size, xs ++ [(i : Int)], by go_num, by go_num, by omega, HSM.out, M3.out.setCell (a := ⟨w1.heap.size, k, none⟩) (by simp; omega) _, by rw [← HFN.out]; exact I3.out.set k _, O3.out.set _ _ (by simp; omega), B3.out.setCell (p := ⟨w1.heap.size, k, none⟩) (by simp; omega) _⟩
        case measure => simp [intOf]; omega
    · obtain rfl : k = m := by omega
      have HE : Hid (outS (st l t k) = (xs, (p : Int), 0)) := by
        unfold Hid
        rw [HST.out]
        rfl
      have HI : Hid (IsI wr w1.heap.size 2 xs) := by
        have := I3.out
        rw [fill_all xs k HXL.out] at this
        exact this
      have c0 := O3.out.c0
      have c1 := O3.out.c1
      have c2 := O3.out.c2
      have f0 := O3.out.fr 0
      have f1 := O3.out.fr 1
      have f2 := O3.out.fr 2
      have HXK : Hid (k = xs.length) := HXL.out.symm
      go_wp2_with fail
      refine bodyPost_ret (v := .agg #[.slice (some ⟨w1.heap.size, 0, none⟩) k k, .int .i64 p, .int .i64 0]) (by simp [results, Try.results17, go_sem, c0, c1, c2]) rfl ⟨.slice (some ⟨w1.heap.size, 0, none⟩) k k, ?_, ?_, ?_⟩
      · rw [HE.out]
      · rw [HE.out]
        refine .inr ⟨w1.heap.size, k, by rw [← HXK.out], by omega, ?_, ?_⟩
        · have := HI.out.lt
          simpa [World.setCell] using this
        · exact (((HI.out.set_other ⟨w.heap.size, 0, none⟩ _ (by simp; omega)).set_other ⟨w.heap.size, 1, none⟩ _ (by simp; omega)).set_other ⟨w.heap.size, 2, none⟩ _ (by simp; omega)).own
      · exact ((B3.out.setCell (Nat.le_refl _) _).setCell (Nat.le_refl _) _).setCell (Nat.le_refl _) _
end Go.Proofs.Ytmkpakhpjgocjaa.Bi

/- The walk of the specification's CodeGet. -/
namespace Go.Proofs.Ytmkpakhpjgocjaa.Bi
open Go.RowKit
open Go.Proofs.Ytmkpakhpjgocjaa.In (Ints IsI OwnIn OwnI one_newI one_cellI)
open Go.Proofs.Ytmkpakhpjgocjaa.St (IsS Strs)

/-- the answer that is being made -/
def OutV (w : World) (g : Nat) (v : Value) (p : Int) : Prop := w.heap[g]? = some (.cells #[v, .int .i64 p, .int .i64 0] 37 (0, 0))
theorem OutV.c0 {w : World} {g : Nat} {v : Value} {p : Int} (h : OutV w g v p) : w.cell? ⟨g, 0, none⟩ = some v := (cell_of_row w g 0 _ _ _ h).trans rfl
theorem OutV.c1 {w : World} {g : Nat} {v : Value} {p : Int} (h : OutV w g v p) : w.cell? ⟨g, 1, none⟩ = some (.int .i64 p) := (cell_of_row w g 1 _ _ _ h).trans rfl
theorem OutV.c2 {w : World} {g : Nat} {v : Value} {p : Int} (h : OutV w g v p) : w.cell? ⟨g, 2, none⟩ = some (.int .i64 0) := (cell_of_row w g 2 _ _ _ h).trans rfl
theorem OutV.fr {w : World} {g : Nat} {v : Value} {p : Int} (h : OutV w g v p) (j : Nat) : w.frozen? ⟨g, j, none⟩ = false := frozen_of_row w g j _ _ h
theorem OutV.lt {w : World} {g : Nat} {v : Value} {p : Int} (h : OutV w g v p) : g < w.heap.size := (Array.getElem?_eq_some_iff.1 h).1
theorem OutV.of_heap {w w' : World} {g : Nat} {v : Value} {p : Int} (h : OutV w g v p) (e : w'.heap[g]? = w.heap[g]?) : OutV w' g v p := by unfold OutV; rw [e]; exact h
theorem OutV.set0 {w : World} {g : Nat} {v : Value} {p : Int} (h : OutV w g v p) (v' : Value) : OutV (w.setCell ⟨g, 0, none⟩ v') g v' p := by unfold OutV; rw [heap_setCell_same w g 0 _ _ _ h]; rfl
theorem OutV.set1 {w : World} {g : Nat} {v : Value} {p : Int} (h : OutV w g v p) (q : Int) : OutV (w.setCell ⟨g, 1, none⟩ (.int .i64 q)) g v q := by unfold OutV; rw [heap_setCell_same w g 1 _ _ _ h]; rfl
theorem ownI_set {w : World} {base : Nat} {v : Value} {l : List Int} (h : OwnI w base v l) (a : Addr) (x : Value) (ha : a.block < base) : OwnI (w.setCell a x) base v l := by
  obtain ⟨hl, h⟩ := h
  refine ⟨hl, ?_⟩
  rcases h with h | ⟨g, cap, cur, hv, hg, hb, rest⟩
  · exact .inl h
  · exact .inr ⟨g, cap, cur, hv, hg, by rw [heap_setCell_other w a g x (by omega)]; exact hb, rest⟩
theorem ownI_alloc {w : World} {base : Nat} {v : Value} {l : List Int} (h : OwnI w base v l) (o : Obj) : OwnI (w.alloc o) base v l := World.ownsRow.alloc h o
theorem in_mono {w : World} {lo hi lo' hi' : Nat} {v : Value} {l : List Int} (h : OwnIn w lo hi v l) (h1 : lo' ≤ lo) (h2 : hi ≤ hi') : OwnIn w lo' hi' v l := by
  rcases h with h | ⟨g, cap, hv, hg, hh, ho⟩
  · exact .inl h
  · exact .inr ⟨g, cap, hv, by omega, by omega, ho⟩
theorem nxt_some {l : List Int} {t : ByteArray} {i : Nat} (h : sym l t = some i) : nxt l t = (i : Int) := by unfold nxt; rw [h]
theorem nxt_short {l : List Int} {t : ByteArray} (h : sym l t = none) (hw : wth l t = true) : nxt l t = -2 := by unfold nxt; rw [h]; simp only [hw, if_true]
theorem nxt_none {l : List Int} {t : ByteArray} (h : sym l t = none) (hw : wth l t = false) : nxt l t = -1 := by unfold nxt; rw [h]; simp only [hw]; rfl

set_option maxRecDepth 100000 in
set_option maxHeartbeats 2000000 in
theorem l04Get_any (l : List Int) (t : ByteArray) (m : Nat) (a : Option Addr) (cap : Nat) (w : World) (hl : Ints w w.heap.size a l) (h8 : t.size ≤ 8000) (hr : right l = true) (hm : m ≤ 400) :
    Calls Try.prog 84 #[.slice a l.length cap, .string t, .int .i64 m] w fun e w' => ∃ v, e = .returned (.agg #[v, .int .i64 (outS (st l t m)).2.1, .int .i64 (outS (st l t m)).2.2]) ∧ OwnIn w' w.heap.size w'.heap.size v (outS (st l t m)).1 ∧ Below w.heap.size w w' := by
  obtain ⟨i0, hi0, hz0, hz1, hz2⟩ := info_parts Try.infoG2
  obtain ⟨W0, hW0⟩ : ∃ W0, W0 = w.alloc (.cells #[.slice none 0 0, .int .i64 0, .int .i64 0] 37) := ⟨_, rfl⟩
  have z0 : W0.heap.size = w.heap.size + 1 := by rw [hW0]; simp
  have B0 := hideB (show Below w.heap.size w W0 by rw [hW0]; exact (Below.refl _ _).alloc (Nat.le_refl _) _)
  have O0 := hideB (show Out0 W0 w.heap.size by rw [hW0]; exact Out0.new w)
  have HCO := hideB (codes_spec l a cap W0.heap.size W0 ((hl.below B0.out).mono B0.out.size) (Nat.le_refl _) hr)
  have HL := hideB hl
  have HR := hideB hr
  have hn := (within_yes (right_yes hr).1).1
  clear hl hr
  obtain ⟨n, hln⟩ : ∃ n, n = l.length := ⟨_, rfl⟩
  have HLN := hideB hln
  rw [← hln] at hn HCO ⊢
  clear hln
  go_enter Try.func84, Try.ntmps84
  go_wp2_with fail
  rw [← hW0]
  have HW0 := hideB hW0
  clear hW0
  refine HCO.out.mono ?_
  rintro e w1 ⟨rfl, hx1, hb1⟩
  have X1 := hideB hx1
  have B1 := hideB (B0.out.trans (hb1.mono (by omega)))
  have O1 := hideB (O0.out.below hb1 (by omega))
  have z1 : W0.heap.size < w1.heap.size := hx1.lt
  clear hx1 hb1
  obtain ⟨b, hb⟩ : ∃ b, b = W0.heap.size := ⟨_, rfl⟩
  rw [← hb] at z0 z1 X1 ⊢
  have zb : w.heap.size < b := by omega
  clear hb HW0 O0 B0 z0 HCO
  go_wp2_with fail
  go_loopw [2] (fun mv wr => ∃ (k p : Nat) (xs : List Int) (v : Value), mv = .int .i64 ((m : Int) - k) ∧ k ≤ m ∧ st l t k = .inr (xs, p) ∧ OutV wr w1.heap.size v p ∧ OwnI wr (w1.heap.size + 1) v xs ∧ IsS wr b 9 (codesV l) ∧ Out0 wr w.heap.size ∧ Below w.heap.size w wr ∧ w1.heap.size < wr.heap.size) (fun mv _ => (intOf mv).toNat)
  case atStart => exact ⟨0, 0, [], .slice none 0 0, by go_num, Nat.zero_le _, rfl, heap_alloc_last w1 _, OwnI.nil _ _, X1.out.of_heapS (Below.heap_alloc w1 _ b z1), O1.out.below ((Below.refl w1.heap.size w1).alloc (Nat.le_refl _) _) (by omega), B1.out.alloc B1.out.size _, by simp⟩
  case round =>
    obtain ⟨k, p, xs, v, rfl, hk, hst, hov, hown, hx, ho, hbel, hz⟩ := hrel
    have HST := hideB hst
    have V3 := hideB hov
    have N3 := hideB hown
    have X3 := hideB hx
    have O3 := hideB ho
    have B3 := hideB hbel
    obtain ⟨hps, hxl⟩ := st_facts k p xs hst
    have HXL := hideB hxl
    obtain ⟨vx, vc, rfl, hvc, _⟩ := hown.ints
    clear hst hov hown hx ho hbel hxl
    have c0 := V3.out.c0
    have c1 := V3.out.c1
    have c2 := V3.out.c2
    have f0 := V3.out.fr 0
    have f1 := V3.out.fr 1
    have d0 := O3.out.c0
    have d1 := O3.out.c1
    have d2 := O3.out.c2
    have e0 := O3.out.fr 0
    have e1 := O3.out.fr 1
    have e2 := O3.out.fr 2
    obtain ⟨xl, hxl2⟩ : ∃ xl, xl = xs.length := ⟨_, rfl⟩
    have HX2 := hideB hxl2
    rw [← hxl2] at c0 V3 N3 hvc
    clear hxl2
    by_cases hlt : k < m
    · have hpos : (0 : Int) < (m : Int) - k := by omega
      have HNX := hideB (next_spec l t p (some ⟨b, 0, none⟩) n (b + 1) wr (X3.out.strs (Nat.lt_succ_self b)) HR.out hps h8)
      rw [← HLN.out] at HNX
      cases hs : sym l (rst t p) with
      | none =>
        have HB := hideB (st_bad HST.out hs)
        have HE : Hid (outS (st l t m) = ([], 0, why l (rst t p))) := by
          have h1 := st_stay HB.out (m - (k + 1))
          rw [show k + 1 + (m - (k + 1)) = m by omega] at h1
          unfold Hid
          rw [h1]
          rfl
        cases hw : wth l (rst t p) with
        | true =>
          rw [nxt_short hs hw] at HNX
          have HE2 : Hid (outS (st l t m) = ([], 0, 4)) := by
            unfold Hid
            rw [HE.out]
            unfold why
            rw [if_pos hw]
          clear hs hw
          go_wp2_with fail
          refine HNX.out.mono ?_
          rintro e w' ⟨rfl, hw'⟩
          subst w'
          go_wp2_with fail
          refine bodyPost_ret (v := .agg #[.slice none 0 0, .int .i64 0, .int .i64 4]) (by simp [results, Try.results84, go_sem, d0, d1, d2]) rfl ⟨.slice none 0 0, ?_, ?_, ?_⟩
          · rw [HE2.out]
          · rw [HE2.out]
            exact .inl ⟨rfl, rfl⟩
          · exact ((B3.out.setCell (Nat.le_refl _) _).setCell (Nat.le_refl _) _).setCell (Nat.le_refl _) _
        | false =>
          rw [nxt_none hs hw] at HNX
          have HE2 : Hid (outS (st l t m) = ([], 0, 3)) := by
            unfold Hid
            rw [HE.out]
            unfold why
            rw [if_neg (by rw [hw]; decide)]
          clear hs hw
          go_wp2_with fail
          refine HNX.out.mono ?_
          rintro e w' ⟨rfl, hw'⟩
          subst w'
          go_wp2_with fail
          refine bodyPost_ret (v := .agg #[.slice none 0 0, .int .i64 0, .int .i64 3]) (by simp [results, Try.results84, go_sem, d0, d1, d2]) rfl ⟨.slice none 0 0, ?_, ?_, ?_⟩
          · rw [HE2.out]
          · rw [HE2.out]
            exact .inl ⟨rfl, rfl⟩
          · exact ((B3.out.setCell (Nat.le_refl _) _).setCell (Nat.le_refl _) _).setCell (Nat.le_refl _) _
      | some i =>
        rw [nxt_some hs] at HNX
        have HSM := hideB (st_more HST.out hs)
        have hmt := sym_mt hs
        have hil : i < l.length := hmt.1
        have hin : i < n := by rw [HLN.out]; exact hil
        have hb1 : ((i : Int) == -1) = false := beq_eq_false_iff_ne.2 (by omega)
        have hb2 : ((i : Int) == -2) = false := beq_eq_false_iff_ne.2 (by omega)
        have hwl : wd l i ≤ 12 := by
          have := (within_yes (right_yes HR.out).1).2 _ (List.getElem_mem hil)
          unfold wd
          rw [getD_lt hil]
          omega
        have HLI : Hid (l[i] = ((wd l i : Nat) : Int)) := by
          unfold Hid
          rw [← getD_lt hil]
          exact wd_int hmt.2.1
        clear hs hmt
        have hown := N3.out
        go_wp2_with fail
        refine HNX.out.mono ?_
        rintro e w' ⟨rfl, hw'⟩
        subst w'
        go_wp2_with (at_builtin; refine wpList_append_own _ rfl (.tmp 30) (.tmp 32) 23 rfl (w1.heap.size + 1) 2 i0 (.int .i64 0) 1 8 Try.underlying23 hi0 hz0 hz1 hz2 rfl (by decide) _ _ _ rfl (ownI_alloc hown _) ⟨wr.heap.size, 0, none⟩ 1 1 [.int .i64 (i : Int)] rfl rfl (one_newI _ _ _) (one_cellI _) (by unfold maxLen; have h1 := HXL.out; have h2 := HX2.out; omega) (by have h1 := HXL.out; have h2 := HX2.out; omega) (by simp; omega) ?_)
        intro v' w5 hown' hgrow _
        have N5 := hideB (OwnI.snoc hown')
        have b5 : Below (w1.heap.size + 1) wr w5 := In.app_one (Below.refl _ _) (by omega) (Nat.le_refl _) hown hgrow
        have V5 := hideB (V3.out.of_heap (b5.block w1.heap.size (Nat.lt_succ_self _)))
        have X5 := hideB (X3.out.of_heapS (b5.block b (by omega)))
        have O5 := hideB (O3.out.below b5 (by omega))
        have B5 := hideB (B3.out.trans (b5.mono (by omega)))
        have z5 := b5.size
        obtain ⟨y, yc, rfl, hyc, _⟩ := N5.out.ints
        obtain ⟨yl, hyl⟩ : ∃ yl, yl = (xs ++ [(i : Int)]).length := ⟨_, rfl⟩
        have HYL := hideB hyl
        rw [← hyl] at N5 hyc ⊢
        clear hown' hgrow hown b5 hyl
        obtain ⟨W6, hW6⟩ : ∃ W6, W6 = w5.setCell ⟨w1.heap.size, 0, none⟩ (.slice y yl yc) := ⟨_, rfl⟩
        have V6 := hideB (show OutV W6 w1.heap.size (.slice y yl yc) p by rw [hW6]; exact V5.out.set0 _)
        have N6 := hideB (show OwnI W6 (w1.heap.size + 1) (.slice y yl yc) (xs ++ [(i : Int)]) by rw [hW6]; exact ownI_set N5.out _ _ (Nat.lt_succ_self _))
        have X6 := hideB (show IsS W6 b 9 (codesV l) by rw [hW6]; exact X5.out.set_other _ _ (by simp; omega))
        have O6 := hideB (show Out0 W6 w.heap.size by rw [hW6]; exact O5.out.set _ _ (by simp; omega))
        have B6 := hideB (show Below w.heap.size w W6 by rw [hW6]; exact B5.out.setCell (p := ⟨w1.heap.size, 0, none⟩) (by simp; omega) _)
        have z6 : w1.heap.size < W6.heap.size := by rw [hW6]; simp [World.setCell]; omega
        have HW6 := hideB hW6
        have g0 := V5.out.c0
        have g1 := V5.out.c1
        have h0 := V5.out.fr 0
        clear hW6 c0 c1 c2 f0 f1 d0 d1 d2 e0 e1 e2
        go_wp2_with fail
        rw [← HW6.out]
        clear g0 g1 h0
        obtain ⟨bl, offl, rfl, _, hcl⟩ := (HL.out.below B6.out).some (by omega)
        have cl := hcl i hil
        rw [HLI.out] at cl
        have k1 := V6.out.c1
        have j1 := V6.out.fr 1
        have V7 : Hid (OutV (W6.setCell ⟨w1.heap.size, 1, none⟩ (.int .i64 ((p : Int) + ((wd l i : Nat) : Int)))) w1.heap.size (.slice y yl yc) ((p + wd l i : Nat) : Int)) := by
          have := V6.out.set1 ((p : Int) + ((wd l i : Nat) : Int))
          unfold Hid
          rw [Int.natCast_add]
          exact this
        generalize wd l i = wv at cl HSM V7 hwl
        clear hcl HLI
        go_region
        all_goals (try go_wp2_with fail)
        all_goals go_roundw
        case rel => exact ⟨k + 1, p + wv, xs ++ [(i : Int)], .slice y yl yc, by go_num, by omega, HSM.out, V7.out, ownI_set N6.out _ _ (Nat.lt_succ_self _), X6.out.set_other _ _ (by simp; omega), O6.out.set _ _ (by simp; omega), Below.drew (B6.out.setCell (p := ⟨w1.heap.size, 1, none⟩) (by simp; omega) _), by simpa [World.setCell] using z6⟩
        case measure => simp [intOf]; omega
    · obtain rfl : k = m := by omega
      have HE : Hid (outS (st l t k) = (xs, (p : Int), 0)) := by
        unfold Hid
        rw [HST.out]
        rfl
      have hpos : ¬ (0 : Int) < (k : Int) - k := by omega
      go_wp2_with fail
      refine bodyPost_ret (v := .agg #[.slice vx xl vc, .int .i64 p, .int .i64 0]) (by simp [results, Try.results84, go_sem, d0, d1, d2]) rfl ⟨.slice vx xl vc, ?_, ?_, ?_⟩
      · rw [HE.out]
      · rw [HE.out]
        exact in_mono (OwnI.inn (ownI_set (ownI_set (ownI_set N3.out ⟨w.heap.size, 0, none⟩ _ (by simp; omega)) ⟨w.heap.size, 1, none⟩ _ (by simp; omega)) ⟨w.heap.size, 2, none⟩ _ (by simp; omega))) (by omega) (Nat.le_refl _)
      · exact ((B3.out.setCell (Nat.le_refl _) _).setCell (Nat.le_refl _) _).setCell (Nat.le_refl _) _
end Go.Proofs.Ytmkpakhpjgocjaa.Bi

/- What impl.CodeGet answers; the specification's look for the next symbol. -/
namespace Go.Proofs.Ytmkpakhpjgocjaa.Bi
open Go.RowKit Go.Maps
open Go.Proofs.Ytmkpakhpjgocjaa.In (Ints IsI OwnIn)
open Go.Proofs.Ytmkpakhpjgocjaa.St (IsS Strs)

theorem nil_in (w : World) (lo hi : Nat) : OwnIn w lo hi (.slice none 0 0) [] := .inl ⟨rfl, rfl⟩

set_option maxRecDepth 100000 in
set_option maxHeartbeats 2000000 in
theorem get_impl (l : List Int) (t : ByteArray) (m : Int) (a : Option Addr) (cap : Nat) (w : World) (hl : Ints w w.heap.size a l) (hn : l.length ≤ 1048576) (ht : t.size ≤ 1048576) :
    Calls Try.prog 17 #[.slice a l.length cap, .string t, .int .i64 m] w fun e w' => ∃ v, e = .returned (.agg #[v, .int .i64 (getR l t m).2.1, .int .i64 (getR l t m).2.2]) ∧ OwnIn w' w.heap.size w'.heap.size v (getR l t m).1 ∧ Below w.heap.size w w' := by
  by_cases h4 : 400 < l.length
  · rw [getR_size (Or.inl h4)]
    clear hl
    generalize l.length = n at hn h4 ⊢
    go_enter Try.func17, Try.ntmps17
    go_wp2_with fail
    refine bodyPost_ret (v := .agg #[.slice none 0 0, .int .i64 0, .int .i64 2]) (by simp [results, Try.results17, go_sem]) rfl ⟨.slice none 0 0, rfl, nil_in _ _ _, (Below.refl _ _).alloc (Nat.le_refl _) _⟩
  · have hd4 : decide (400 < (l.length : Int)) = false := decide_eq_false (by omega)
    by_cases h8 : 8000 < t.size
    · rw [getR_size (Or.inr h8)]
      clear hl
      generalize l.length = n at hn h4 hd4 ⊢
      go_enter Try.func17, Try.ntmps17
      go_wp2_with fail
      refine bodyPost_ret (v := .agg #[.slice none 0 0, .int .i64 0, .int .i64 2]) (by simp [results, Try.results17, go_sem]) rfl ⟨.slice none 0 0, rfl, nil_in _ _ _, (Below.refl _ _).alloc (Nat.le_refl _) _⟩
    · have hd8 : decide (8000 < (t.size : Int)) = false := decide_eq_false (by omega)
      have hno : ¬ (400 < l.length ∨ 8000 < t.size) := by omega
      have hl0 := (hl.below ((Below.refl w.heap.size w).alloc (Nat.le_refl _) (.cells #[.slice none 0 0, .int .i64 0, .int .i64 0] 37))).mono (by simp : w.heap.size ≤ (w.alloc (.cells #[.slice none 0 0, .int .i64 0, .int .i64 0] 37)).heap.size)
      have HWH := hideB (whole_impl l a cap _ _ hl0 hn)
      have HGO := hideB (good_impl t (w.alloc (.cells #[.slice none 0 0, .int .i64 0, .int .i64 0] 37)) ht)
      clear hl0
      cases hw : whole l with
      | false =>
        rw [getR_form hno (Or.inl hw)]
        rw [hw] at HWH
        clear hl hno
        generalize l.length = n at hn h4 hd4 HWH ⊢
        go_enter Try.func17, Try.ntmps17
        go_wp2_with fail
        refine HWH.out.mono ?_
        rintro e w' ⟨rfl, hw'⟩
        subst w'
        go_wp2_with fail
        refine bodyPost_ret (v := .agg #[.slice none 0 0, .int .i64 0, .int .i64 1]) (by simp [results, Try.results17, go_sem]) rfl ⟨.slice none 0 0, rfl, nil_in _ _ _, (Below.refl _ _).alloc (Nat.le_refl _) _⟩
      | true =>
        cases hg : good t with
        | false =>
          rw [getR_form hno (Or.inr (Or.inl hg))]
          rw [hw] at HWH
          rw [hg] at HGO
          clear hl hno hw
          generalize l.length = n at hn h4 hd4 HWH ⊢
          go_enter Try.func17, Try.ntmps17
          go_wp2_with fail
          refine HWH.out.mono ?_
          rintro e w' ⟨rfl, hw'⟩
          subst w'
          go_wp2_with fail
          refine HGO.out.mono ?_
          rintro e w' ⟨rfl, hw'⟩
          subst w'
          go_wp2_with fail
          refine bodyPost_ret (v := .agg #[.slice none 0 0, .int .i64 0, .int .i64 1]) (by simp [results, Try.results17, go_sem]) rfl ⟨.slice none 0 0, rfl, nil_in _ _ _, (Below.refl _ _).alloc (Nat.le_refl _) _⟩
        | true =>
          by_cases hm : m < 0
          · rw [getR_form hno (Or.inr (Or.inr (Or.inl hm)))]
            rw [hw] at HWH
            rw [hg] at HGO
            clear hl hno hw hg
            generalize l.length = n at hn h4 hd4 HWH ⊢
            go_enter Try.func17, Try.ntmps17
            go_wp2_with fail
            refine HWH.out.mono ?_
            rintro e w' ⟨rfl, hw'⟩
            subst w'
            go_wp2_with fail
            refine HGO.out.mono ?_
            rintro e w' ⟨rfl, hw'⟩
            subst w'
            go_wp2_with fail
            refine bodyPost_ret (v := .agg #[.slice none 0 0, .int .i64 0, .int .i64 1]) (by simp [results, Try.results17, go_sem]) rfl ⟨.slice none 0 0, rfl, nil_in _ _ _, (Below.refl _ _).alloc (Nat.le_refl _) _⟩
          · by_cases hm4 : 400 < m
            · rw [getR_form hno (Or.inr (Or.inr (Or.inr hm4)))]
              have hdm : decide (m < 0) = false := decide_eq_false hm
              rw [hw] at HWH
              rw [hg] at HGO
              clear hl hno hw hg
              generalize l.length = n at hn h4 hd4 HWH ⊢
              go_enter Try.func17, Try.ntmps17
              go_wp2_with fail
              refine HWH.out.mono ?_
              rintro e w' ⟨rfl, hw'⟩
              subst w'
              go_wp2_with fail
              refine HGO.out.mono ?_
              rintro e w' ⟨rfl, hw'⟩
              subst w'
              go_wp2_with fail
              refine bodyPost_ret (v := .agg #[.slice none 0 0, .int .i64 0, .int .i64 1]) (by simp [results, Try.results17, go_sem]) rfl ⟨.slice none 0 0, rfl, nil_in _ _ _, (Below.refl _ _).alloc (Nat.le_refl _) _⟩
            · obtain ⟨k, rfl⟩ : ∃ k : Nat, m = k := ⟨m.toNat, by omega⟩
              rw [getR_in hno hw hg (by omega)]
              exact get_yes l t k a cap w hl h4 h8 hw hg (by omega)
end Go.Proofs.Ytmkpakhpjgocjaa.Bi
