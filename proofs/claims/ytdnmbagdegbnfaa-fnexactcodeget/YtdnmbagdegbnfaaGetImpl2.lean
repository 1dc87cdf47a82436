/- The walk of impl.CodeGet. -/
import Derived.Test.YtdnmbagdegbnfaaCodeWhy
import Derived.Test.YtdnmbagdegbnfaaIntIn
import Derived.Test.YtdnmbagdegbnfaaPackWalks
import Derived.Maps.OwnOps
namespace Go.Proofs.Ytdnmbagdegbnfaa.Bi
open Go.RowKit Go.Maps
open Go.WideMaps (keyOf_string_mk string_of_keyOf)
open Go.Proofs.Ytdnmbagdegbnfaa.In (Ints IsI OwnIn made_ints)
open Go.Proofs.Ytdnmbagdegbnfaa.Nu (ret_strJ)

theorem Try.infoG2 : (Try.prog.info? 2).map (fun i => (i.zero, i.size, i.bytes)) = some (some (.int .i64 0), 1, 8) := by kernel_rfl
/-- the numbers got so far, in their row -/
def fill (xs : List Int) (m : Nat) : List Int := xs ++ List.replicate (m - xs.length) 0
theorem fill_length (xs : List Int) (m : Nat) (h : xs.length ≤ m) : (fill xs m).length = m := by simp [fill]; omega
theorem fill_next (xs : List Int) (m : Nat) (x : Int) (h : xs.length < m) : (fill xs m).set xs.length x = fill (xs ++ [x]) m := by
  unfold fill
  rw [List.set_append, if_neg (by omega), Nat.sub_self, List.length_append]
  obtain ⟨d, hd⟩ : ∃ d, m - xs.length = d + 1 := ⟨m - xs.length - 1, by omega⟩
  rw [hd, show m - (xs.length + [x].length) = d by simp; omega, List.replicate_succ, List.set_cons_zero]
  simp
theorem fill_all (xs : List Int) (m : Nat) (h : xs.length = m) : fill xs m = xs := by simp [fill, h]
theorem fill_none (m : Nat) : fill [] m = List.replicate m 0 := by simp [fill]
/-- the answer's own variable -/
def Out0 (w : World) (g : Nat) : Prop := w.heap[g]? = some (.cells #[.slice none 0 0, .int .i64 0, .int .i64 0] 37 (0, 0))
theorem Out0.c0 {w : World} {g : Nat} (h : Out0 w g) : w.cell? ⟨g, 0, none⟩ = some (.slice none 0 0) := (cell_of_row w g 0 _ _ _ h).trans rfl
theorem Out0.c1 {w : World} {g : Nat} (h : Out0 w g) : w.cell? ⟨g, 1, none⟩ = some (.int .i64 0) := (cell_of_row w g 1 _ _ _ h).trans rfl
theorem Out0.c2 {w : World} {g : Nat} (h : Out0 w g) : w.cell? ⟨g, 2, none⟩ = some (.int .i64 0) := (cell_of_row w g 2 _ _ _ h).trans rfl
theorem Out0.fr {w : World} {g : Nat} (h : Out0 w g) (j : Nat) : w.frozen? ⟨g, j, none⟩ = false := frozen_of_row w g j _ _ h
theorem Out0.lt {w : World} {g : Nat} (h : Out0 w g) : g < w.heap.size := (Array.getElem?_eq_some_iff.1 h).1
theorem Out0.below {w w' : World} {g B : Nat} (h : Out0 w g) (b : Below B w w') (hg : g < B) : Out0 w' g := by unfold Out0; rw [b.block g hg]; exact h
theorem Out0.set {w : World} {g : Nat} (h : Out0 w g) (a : Addr) (v : Value) (ha : g ≠ a.block) : Out0 (w.setCell a v) g := by unfold Out0; rw [heap_setCell_other w a g v ha]; exact h
theorem Out0.new (w : World) : Out0 (w.alloc (.cells #[.slice none 0 0, .int .i64 0, .int .i64 0] 37)) w.heap.size := heap_alloc_last w _

set_option maxRecDepth 100000 in
set_option maxHeartbeats 1000000 in
theorem get_yes (l : List Int) (t : ByteArray) (m : Nat) (a : Option Addr) (cap : Nat) (w : World) (hl : Ints w w.heap.size a l) (h4 : ¬ 400 < l.length) (h8 : ¬ 8000 < t.size) (hw : whole l = true) (hg : good t = true) (hm : m ≤ 400) :
    Calls Try.prog 26 #[.slice a l.length cap, .string t, .int .i64 m] w fun e w' => ∃ v, e = .returned (.agg #[v, .int .i64 (outS (st l t m)).2.1, .int .i64 (outS (st l t m)).2.2]) ∧ OwnIn w' w.heap.size w'.heap.size v (outS (st l t m)).1 ∧ Below w.heap.size w w' := by
  obtain ⟨i0, hi0, hz0, hz1, hz2⟩ := info_parts Try.infoG2
  have hd4 : decide (400 < (l.length : Int)) = false := decide_eq_false (by omega)
  have hd8 : decide (8000 < (t.size : Int)) = false := decide_eq_false (by omega)
  have hdm : decide ((m : Int) < 0) = false := decide_eq_false (by omega)
  have hdm4 : decide ((400 : Int) < m) = false := decide_eq_false (by omega)
  obtain ⟨W0, hW0⟩ : ∃ W0, W0 = w.alloc (.cells #[.slice none 0 0, .int .i64 0, .int .i64 0] 37) := ⟨_, rfl⟩
  have z0 : W0.heap.size = w.heap.size + 1 := by rw [hW0]; simp
  have B0 := hideB (show Below w.heap.size w W0 by rw [hW0]; exact (Below.refl _ _).alloc (Nat.le_refl _) _)
  have O0 := hideB (show Out0 W0 w.heap.size by rw [hW0]; exact Out0.new w)
  have hl0 := (hl.below B0.out).mono B0.out.size
  have HWH := hideB (whole_impl l a cap W0.heap.size W0 hl0 (by omega))
  rw [hw] at HWH
  have HGO := hideB (good_impl t W0 (by omega))
  rw [hg] at HGO
  have HSY := hideB (symbols_any l a cap W0 hl0 (whole_right hw))
  have HR := hideB (whole_right hw)
  clear hl hl0 hw hg h4
  obtain ⟨n, hln⟩ : ∃ n, n = l.length := ⟨_, rfl⟩
  have HLN := hideB hln
  rw [← hln] at hd4 HWH HSY ⊢
  clear hln
  go_enter Try.func26, Try.ntmps26
  go_wp2_with fail
  rw [← hW0]
  have HW0 := hideB hW0
  clear hW0
  refine HWH.out.mono ?_
  rintro e w' ⟨rfl, hw'⟩
  subst w'
  go_wp2_with fail
  refine HGO.out.mono ?_
  rintro e w' ⟨rfl, hw'⟩
  subst w'
  go_wp2_with fail
  refine HSY.out.mono ?_
  rintro e w1 ⟨D, rfl, hown1, hcm, hb1⟩
  have M1 := hideB hown1
  have HCM := hideB hcm
  have B1 := hideB (B0.out.trans (hb1.mono (by omega)))
  have O1 := hideB (O0.out.below hb1 (by omega))
  have z1 : W0.heap.size < w1.heap.size := hown1.lt
  clear hown1 hcm hb1 HWH HGO HSY
  obtain ⟨b, hb⟩ : ∃ b, b = W0.heap.size := ⟨_, rfl⟩
  rw [← hb] at z0 z1 M1 ⊢
  have zb : w.heap.size < b := by omega
  clear z0
  clear hb HW0 O0 B0
  go_wp2_with (at_make; refine wpList_make_full _ rfl (.tmp 40) (.tmp 40) 23 rfl w1.heap.size 2 i0 (.int .i64 0) 1 Try.underlying23 hi0 hz0 hz1 .i64 .i64 _ _ m rfl rfl (by simp) (by simp) (by rw [hz2]; omega) (by unfold maxLen; omega) (Nat.le_refl _) ?_; intro w2 hown2 hgrow2; have R2 := hideB (made_ints hown2); have b2 := (Below.refl w1.heap.size w1).grown hgrow2 (Nat.le_refl _) (by simp); have B2 := hideB (B1.out.trans (b2.mono B1.out.size)); have O2 := hideB (O1.out.below b2 (by omega)); have M2 := hideB (M1.out.kept hgrow2 (by simp)); clear hown2 hgrow2 b2)
  go_loopw [43, 9] (fun i at_ wr => ∃ (k p : Nat) (xs : List Int), i = .int .i64 k ∧ at_ = .int .i64 p ∧ k ≤ m ∧ st l t k = .inr (xs, p) ∧ wr.ownsMap Try.prog 9 (plainElem Try.prog 2) b n D ∧ IsI wr w1.heap.size 2 (fill xs m) ∧ Out0 wr w.heap.size ∧ Below w.heap.size w wr) (fun i _ _ => m - (intOf i).toNat)
  case atStart => exact ⟨0, 0, [], rfl, rfl, Nat.zero_le _, rfl, M2.out, by rw [fill_none]; exact R2.out, O2.out, B2.out⟩
  case round =>
    obtain ⟨k, p, xs, rfl, rfl, hk, hst, hown, hi, ho, hbel⟩ := hrel
    have HST := hideB hst
    have M3 := hideB hown
    have I3 := hideB hi
    have O3 := hideB ho
    have B3 := hideB hbel
    obtain ⟨hps, hxl⟩ := st_facts k p xs hst
    have HXL := hideB hxl
    clear hst hown hi ho hbel hxl
    by_cases hlt : k < m
    · have hpi : (p : Int) ≤ t.size := by omega
      have HFI := hideB (first_any l (rst t p) b n D wr M3.out (by rw [← HLN.out]; exact HCM.out) HR.out (by rw [rst_size]; omega))
      have HRE : Hid (rst t p = t.extract p t.size) := rfl
      cases hs : sym l (rst t p) with
      | none =>
        have HT : Hid (symT l (rst t p) = ⟨#[]⟩) := by
          unfold Hid symT
          rw [hs]
        rw [HT.out, HRE.out] at HFI
        have HB := hideB (st_bad HST.out hs)
        have HE : Hid (outS (st l t m) = ([], 0, why l (rst t p))) := by
          have h1 := st_stay HB.out (m - (k + 1))
          rw [show k + 1 + (m - (k + 1)) = m by omega] at h1
          unfold Hid
          rw [h1]
          rfl
        have HWY := hideB (why_any l (rst t p) b n b D wr M3.out (by rw [← HLN.out]; exact HCM.out) (Nat.le_refl _) (Nat.le_of_lt M3.out.lt))
        rw [HRE.out] at HWY HE
        generalize why l (t.extract p t.size) = wy at HWY HE
        clear hs
        go_wp2_with fail
        refine HFI.out.mono ?_
        rintro e w' ⟨rfl, hw'⟩
        subst w'
        go_wp2_with fail
        refine HWY.out.mono ?_
        rintro e w4 ⟨rfl, hb4⟩
        have O4 := hideB (O3.out.below hb4 (by omega))
        have B4 := hideB (B3.out.trans (hb4.mono (by omega)))
        have c0 := O4.out.c0
        have c1 := O4.out.c1
        have c2 := O4.out.c2
        have f0 := O4.out.fr 0
        have f1 := O4.out.fr 1
        have f2 := O4.out.fr 2
        clear hb4
        go_wp2_with fail
        refine bodyPost_ret (v := .agg #[.slice none 0 0, .int .i64 0, .int .i64 wy]) (by simp [results, Try.results26, go_sem, c0, c1, c2]) rfl ⟨.slice none 0 0, ?_, ?_, ?_⟩
        · rw [HE.out]
        · rw [HE.out]
          exact .inl ⟨rfl, rfl⟩
        · exact ((B4.out.setCell (Nat.le_refl _) _).setCell (Nat.le_refl _) _).setCell (Nat.le_refl _) _
      | some i =>
        have HT : Hid (symT l (rst t p) = codeOf l i) := by
          unfold Hid symT
          rw [hs]
        have hmt := sym_mt hs
        have HSM := hideB (st_more HST.out hs)
        have HCO := hideB (codeOf_size l i)
        have hcl := codeOf_le l (within_yes (right_yes HR.out).1).2 i
        have HAT := hideB (HCM.out.2 i (by rw [HLN.out]; exact hmt.1) hmt.1 hmt.2.1)
        have hw1 : 1 ≤ wd l i := by have := hmt.2.1; unfold wd; omega
        rw [show (l.getD i 0).toNat = wd l i from rfl] at HCO
        rw [← HCO.out] at HSM hw1
        rw [HT.out, HRE.out] at HFI
        obtain ⟨c, hc⟩ : ∃ c, c = codeOf l i := ⟨_, rfl⟩
        rw [← hc] at HFI HSM hw1 hcl HAT
        have hne : c.toList.isEmpty = false := nonempty c hw1
        have hkey : keyOf Try.prog 9 (.string c) = some (kl c) := keyOf_string_mk Try.underlying9 (by unfold maxLen; omega)
        have hkf : k < (fill xs m).length := by rw [fill_length xs m (by have := HXL.out; omega)]; exact hlt
        have cf := I3.out.frozen k
        obtain ⟨v0, ce⟩ : ∃ v0, wr.cell? ⟨w1.heap.size, k, none⟩ = some (.int .i64 v0) := ⟨_, I3.out.cell hkf⟩
        have HFN : Hid ((fill xs m).set k (i : Int) = fill (xs ++ [(i : Int)]) m) := by
          have h1 := HXL.out
          unfold Hid
          rw [← h1]
          exact fill_next xs m i (by omega)
        have hown := M3.out
        clear hs hmt hc hkf HT
        go_wp2_with fail
        refine HFI.out.mono ?_
        rintro e w' ⟨rfl, hw'⟩
        subst w'
        go_wp2_with (first | (at_lookup; refine wpList_lookup_own_int _ rfl _ _ 79 rfl 9 2 .i64 lawS Try.underlying79 Try.underlying2 (zeroI _) b n D rfl hown _ _ rfl hkey ?_; intro c' hat hwc; have hci : c' = (i : Int) := (by rw [HAT.out] at hat; simpa using hat.symm); subst hci; clear hat hwc))
        go_wp2_with fail
        go_roundw
        case rel => exact ⟨k + 1, p + c.size, xs ++ [(i : Int)], by go_num, by go_num, by omega, HSM.out, M3.out.setCell (a := ⟨w1.heap.size, k, none⟩) (by simp; omega) _, by rw [← HFN.out]; exact I3.out.set k _, O3.out.set _ _ (by simp; omega), B3.out.setCell (p := ⟨w1.heap.size, k, none⟩) (by simp; omega) _⟩
        case measure => simp [intOf]; omega
    · obtain rfl : k = m := by omega
      have HE : Hid (outS (st l t k) = (xs, (p : Int), 0)) := by
        unfold Hid
        rw [HST.out]
        rfl
      have HI : Hid (IsI wr w1.heap.size 2 xs) := by
        have := I3.out
        rw [fill_all xs k HXL.out] at this
        exact this
      have c0 := O3.out.c0
      have c1 := O3.out.c1
      have c2 := O3.out.c2
      have f0 := O3.out.fr 0
      have f1 := O3.out.fr 1
      have f2 := O3.out.fr 2
      have HXK : Hid (k = xs.length) := HXL.out.symm
      go_wp2_with fail
      refine bodyPost_ret (v := .agg #[.slice (some ⟨w1.heap.size, 0, none⟩) k k, .int .i64 p, .int .i64 0]) (by simp [results, Try.results26, go_sem, c0, c1, c2]) rfl ⟨.slice (some ⟨w1.heap.size, 0, none⟩) k k, ?_, ?_, ?_⟩
      · rw [HE.out]
      · rw [HE.out]
        refine .inr ⟨w1.heap.size, k, by rw [← HXK.out], by omega, ?_, ?_⟩
        · have := HI.out.lt
          simpa [World.setCell] using this
        · exact (((HI.out.set_other ⟨w.heap.size, 0, none⟩ _ (by simp; omega)).set_other ⟨w.heap.size, 1, none⟩ _ (by simp; omega)).set_other ⟨w.heap.size, 2, none⟩ _ (by simp; omega)).own
      · exact ((B3.out.setCell (Nat.le_refl _) _).setCell (Nat.le_refl _) _).setCell (Nat.le_refl _) _
end Go.Proofs.Ytdnmbagdegbnfaa.Bi
