/- The walk of the specification's CodeGet. -/
import Derived.Test.YtdnmbagdegbnfaaGetNext
import Derived.Test.YtdnmbagdegbnfaaGetImpl2
import Derived.BigRegion
namespace Go.Proofs.Ytdnmbagdegbnfaa.Bi
open Go.RowKit
open Go.Proofs.Ytdnmbagdegbnfaa.In (Ints IsI OwnIn OwnI one_newI one_cellI)
open Go.Proofs.Ytdnmbagdegbnfaa.St (IsS Strs)

/-- the answer that is being made -/
def OutV (w : World) (g : Nat) (v : Value) (p : Int) : Prop := w.heap[g]? = some (.cells #[v, .int .i64 p, .int .i64 0] 37 (0, 0))
theorem OutV.c0 {w : World} {g : Nat} {v : Value} {p : Int} (h : OutV w g v p) : w.cell? ⟨g, 0, none⟩ = some v := (cell_of_row w g 0 _ _ _ h).trans rfl
theorem OutV.c1 {w : World} {g : Nat} {v : Value} {p : Int} (h : OutV w g v p) : w.cell? ⟨g, 1, none⟩ = some (.int .i64 p) := (cell_of_row w g 1 _ _ _ h).trans rfl
theorem OutV.c2 {w : World} {g : Nat} {v : Value} {p : Int} (h : OutV w g v p) : w.cell? ⟨g, 2, none⟩ = some (.int .i64 0) := (cell_of_row w g 2 _ _ _ h).trans rfl
theorem OutV.fr {w : World} {g : Nat} {v : Value} {p : Int} (h : OutV w g v p) (j : Nat) : w.frozen? ⟨g, j, none⟩ = false := frozen_of_row w g j _ _ h
theorem OutV.lt {w : World} {g : Nat} {v : Value} {p : Int} (h : OutV w g v p) : g < w.heap.size := (Array.getElem?_eq_some_iff.1 h).1
theorem OutV.of_heap {w w' : World} {g : Nat} {v : Value} {p : Int} (h : OutV w g v p) (e : w'.heap[g]? = w.heap[g]?) : OutV w' g v p := by unfold OutV; rw [e]; exact h
theorem OutV.set0 {w : World} {g : Nat} {v : Value} {p : Int} (h : OutV w g v p) (v' : Value) : OutV (w.setCell ⟨g, 0, none⟩ v') g v' p := by unfold OutV; rw [heap_setCell_same w g 0 _ _ _ h]; rfl
theorem OutV.set1 {w : World} {g : Nat} {v : Value} {p : Int} (h : OutV w g v p) (q : Int) : OutV (w.setCell ⟨g, 1, none⟩ (.int .i64 q)) g v q := by unfold OutV; rw [heap_setCell_same w g 1 _ _ _ h]; rfl
theorem ownI_set {w : World} {base : Nat} {v : Value} {l : List Int} (h : OwnI w base v l) (a : Addr) (x : Value) (ha : a.block < base) : OwnI (w.setCell a x) base v l := by
  obtain ⟨hl, h⟩ := h
  refine ⟨hl, ?_⟩
  rcases h with h | ⟨g, cap, cur, hv, hg, hb, rest⟩
  · exact .inl h
  · exact .inr ⟨g, cap, cur, hv, hg, by rw [heap_setCell_other w a g x (by omega)]; exact hb, rest⟩
theorem ownI_alloc {w : World} {base : Nat} {v : Value} {l : List Int} (h : OwnI w base v l) (o : Obj) : OwnI (w.alloc o) base v l := World.ownsRow.alloc h o
theorem in_mono {w : World} {lo hi lo' hi' : Nat} {v : Value} {l : List Int} (h : OwnIn w lo hi v l) (h1 : lo' ≤ lo) (h2 : hi ≤ hi') : OwnIn w lo' hi' v l := by
  rcases h with h | ⟨g, cap, hv, hg, hh, ho⟩
  · exact .inl h
  · exact .inr ⟨g, cap, hv, by omega, by omega, ho⟩
theorem nxt_some {l : List Int} {t : ByteArray} {i : Nat} (h : sym l t = some i) : nxt l t = (i : Int) := by unfold nxt; rw [h]
theorem nxt_short {l : List Int} {t : ByteArray} (h : sym l t = none) (hw : wth l t = true) : nxt l t = -2 := by unfold nxt; rw [h]; simp only [hw, if_true]
theorem nxt_none {l : List Int} {t : ByteArray} (h : sym l t = none) (hw : wth l t = false) : nxt l t = -1 := by unfold nxt; rw [h]; simp only [hw]; rfl

set_option maxRecDepth 100000 in
set_option maxHeartbeats 2000000 in
theorem l04Get_any (l : List Int) (t : ByteArray) (m : Nat) (a : Option Addr) (cap : Nat) (w : World) (hl : Ints w w.heap.size a l) (h8 : t.size ≤ 8000) (hr : right l = true) (hm : m ≤ 400) :
    Calls Try.prog 94 #[.slice a l.length cap, .string t, .int .i64 m] w fun e w' => ∃ v, e = .returned (.agg #[v, .int .i64 (outS (st l t m)).2.1, .int .i64 (outS (st l t m)).2.2]) ∧ OwnIn w' w.heap.size w'.heap.size v (outS (st l t m)).1 ∧ Below w.heap.size w w' := by
  obtain ⟨i0, hi0, hz0, hz1, hz2⟩ := info_parts Try.infoG2
  obtain ⟨W0, hW0⟩ : ∃ W0, W0 = w.alloc (.cells #[.slice none 0 0, .int .i64 0, .int .i64 0] 37) := ⟨_, rfl⟩
  have z0 : W0.heap.size = w.heap.size + 1 := by rw [hW0]; simp
  have B0 := hideB (show Below w.heap.size w W0 by rw [hW0]; exact (Below.refl _ _).alloc (Nat.le_refl _) _)
  have O0 := hideB (show Out0 W0 w.heap.size by rw [hW0]; exact Out0.new w)
  have HCO := hideB (codes_spec l a cap W0.heap.size W0 ((hl.below B0.out).mono B0.out.size) (Nat.le_refl _) hr)
  have HL := hideB hl
  have HR := hideB hr
  have hn := (within_yes (right_yes hr).1).1
  clear hl hr
  obtain ⟨n, hln⟩ : ∃ n, n = l.length := ⟨_, rfl⟩
  have HLN := hideB hln
  rw [← hln] at hn HCO ⊢
  clear hln
  go_enter Try.func94, Try.ntmps94
  go_wp2_with fail
  rw [← hW0]
  have HW0 := hideB hW0
  clear hW0
  refine HCO.out.mono ?_
  rintro e w1 ⟨rfl, hx1, hb1⟩
  have X1 := hideB hx1
  have B1 := hideB (B0.out.trans (hb1.mono (by omega)))
  have O1 := hideB (O0.out.below hb1 (by omega))
  have z1 : W0.heap.size < w1.heap.size := hx1.lt
  clear hx1 hb1
  obtain ⟨b, hb⟩ : ∃ b, b = W0.heap.size := ⟨_, rfl⟩
  rw [← hb] at z0 z1 X1 ⊢
  have zb : w.heap.size < b := by omega
  clear hb HW0 O0 B0 z0 HCO
  go_wp2_with fail
  go_loopw [2] (fun mv wr => ∃ (k p : Nat) (xs : List Int) (v : Value), mv = .int .i64 ((m : Int) - k) ∧ k ≤ m ∧ st l t k = .inr (xs, p) ∧ OutV wr w1.heap.size v p ∧ OwnI wr (w1.heap.size + 1) v xs ∧ IsS wr b 9 (codesV l) ∧ Out0 wr w.heap.size ∧ Below w.heap.size w wr ∧ w1.heap.size < wr.heap.size) (fun mv _ => (intOf mv).toNat)
  case atStart => exact ⟨0, 0, [], .slice none 0 0, by go_num, Nat.zero_le _, rfl, heap_alloc_last w1 _, OwnI.nil _ _, X1.out.of_heapS (Below.heap_alloc w1 _ b z1), O1.out.below ((Below.refl w1.heap.size w1).alloc (Nat.le_refl _) _) (by omega), B1.out.alloc B1.out.size _, by simp⟩
  case round =>
    obtain ⟨k, p, xs, v, rfl, hk, hst, hov, hown, hx, ho, hbel, hz⟩ := hrel
    have HST := hideB hst
    have V3 := hideB hov
    have N3 := hideB hown
    have X3 := hideB hx
    have O3 := hideB ho
    have B3 := hideB hbel
    obtain ⟨hps, hxl⟩ := st_facts k p xs hst
    have HXL := hideB hxl
    obtain ⟨vx, vc, rfl, hvc, _⟩ := hown.ints
    clear hst hov hown hx ho hbel hxl
    have c0 := V3.out.c0
    have c1 := V3.out.c1
    have c2 := V3.out.c2
    have f0 := V3.out.fr 0
    have f1 := V3.out.fr 1
    have d0 := O3.out.c0
    have d1 := O3.out.c1
    have d2 := O3.out.c2
    have e0 := O3.out.fr 0
    have e1 := O3.out.fr 1
    have e2 := O3.out.fr 2
    obtain ⟨xl, hxl2⟩ : ∃ xl, xl = xs.length := ⟨_, rfl⟩
    have HX2 := hideB hxl2
    rw [← hxl2] at c0 V3 N3 hvc
    clear hxl2
    by_cases hlt : k < m
    · have hpos : (0 : Int) < (m : Int) - k := by omega
      have HNX := hideB (next_spec l t p (some ⟨b, 0, none⟩) n (b + 1) wr (X3.out.strs (Nat.lt_succ_self b)) HR.out hps h8)
      rw [← HLN.out] at HNX
      cases hs : sym l (rst t p) with
      | none =>
        have HB := hideB (st_bad HST.out hs)
        have HE : Hid (outS (st l t m) = ([], 0, why l (rst t p))) := by
          have h1 := st_stay HB.out (m - (k + 1))
          rw [show k + 1 + (m - (k + 1)) = m by omega] at h1
          unfold Hid
          rw [h1]
          rfl
        cases hw : wth l (rst t p) with
        | true =>
          rw [nxt_short hs hw] at HNX
          have HE2 : Hid (outS (st l t m) = ([], 0, 4)) := by
            unfold Hid
            rw [HE.out]
            unfold why
            rw [if_pos hw]
          clear hs hw
          go_wp2_with fail
          refine HNX.out.mono ?_
          rintro e w' ⟨rfl, hw'⟩
          subst w'
          go_wp2_with fail
          refine bodyPost_ret (v := .agg #[.slice none 0 0, .int .i64 0, .int .i64 4]) (by simp [results, Try.results94, go_sem, d0, d1, d2]) rfl ⟨.slice none 0 0, ?_, ?_, ?_⟩
          · rw [HE2.out]
          · rw [HE2.out]
            exact .inl ⟨rfl, rfl⟩
          · exact ((B3.out.setCell (Nat.le_refl _) _).setCell (Nat.le_refl _) _).setCell (Nat.le_refl _) _
        | false =>
          rw [nxt_none hs hw] at HNX
          have HE2 : Hid (outS (st l t m) = ([], 0, 3)) := by
            unfold Hid
            rw [HE.out]
            unfold why
            rw [if_neg (by rw [hw]; decide)]
          clear hs hw
          go_wp2_with fail
          refine HNX.out.mono ?_
          rintro e w' ⟨rfl, hw'⟩
          subst w'
          go_wp2_with fail
          refine bodyPost_ret (v := .agg #[.slice none 0 0, .int .i64 0, .int .i64 3]) (by simp [results, Try.results94, go_sem, d0, d1, d2]) rfl ⟨.slice none 0 0, ?_, ?_, ?_⟩
          · rw [HE2.out]
          · rw [HE2.out]
            exact .inl ⟨rfl, rfl⟩
          · exact ((B3.out.setCell (Nat.le_refl _) _).setCell (Nat.le_refl _) _).setCell (Nat.le_refl _) _
      | some i =>
        rw [nxt_some hs] at HNX
        have HSM := hideB (st_more HST.out hs)
        have hmt := sym_mt hs
        have hil : i < l.length := hmt.1
        have hin : i < n := by rw [HLN.out]; exact hil
        have hb1 : ((i : Int) == -1) = false := beq_eq_false_iff_ne.2 (by omega)
        have hb2 : ((i : Int) == -2) = false := beq_eq_false_iff_ne.2 (by omega)
        have hwl : wd l i ≤ 12 := by
          have := (within_yes (right_yes HR.out).1).2 _ (List.getElem_mem hil)
          unfold wd
          rw [getD_lt hil]
          omega
        have HLI : Hid (l[i] = ((wd l i : Nat) : Int)) := by
          unfold Hid
          rw [← getD_lt hil]
          exact wd_int hmt.2.1
        clear hs hmt
        have hown := N3.out
        go_wp2_with fail
        refine HNX.out.mono ?_
        rintro e w' ⟨rfl, hw'⟩
        subst w'
        go_wp2_with (at_builtin; refine wpList_append_own _ rfl (.tmp 30) (.tmp 32) 23 rfl (w1.heap.size + 1) 2 i0 (.int .i64 0) 1 8 Try.underlying23 hi0 hz0 hz1 hz2 rfl (by decide) _ _ _ rfl (ownI_alloc hown _) ⟨wr.heap.size, 0, none⟩ 1 1 [.int .i64 (i : Int)] rfl rfl (one_newI _ _ _) (one_cellI _) (by unfold maxLen; have h1 := HXL.out; have h2 := HX2.out; omega) (by have h1 := HXL.out; have h2 := HX2.out; omega) (by simp; omega) ?_)
        intro v' w5 hown' hgrow _
        have N5 := hideB (OwnI.snoc hown')
        have b5 : Below (w1.heap.size + 1) wr w5 := In.app_one (Below.refl _ _) (by omega) (Nat.le_refl _) hown hgrow
        have V5 := hideB (V3.out.of_heap (b5.block w1.heap.size (Nat.lt_succ_self _)))
        have X5 := hideB (X3.out.of_heapS (b5.block b (by omega)))
        have O5 := hideB (O3.out.below b5 (by omega))
        have B5 := hideB (B3.out.trans (b5.mono (by omega)))
        have z5 := b5.size
        obtain ⟨y, yc, rfl, hyc, _⟩ := N5.out.ints
        obtain ⟨yl, hyl⟩ : ∃ yl, yl = (xs ++ [(i : Int)]).length := ⟨_, rfl⟩
        have HYL := hideB hyl
        rw [← hyl] at N5 hyc ⊢
        clear hown' hgrow hown b5 hyl
        obtain ⟨W6, hW6⟩ : ∃ W6, W6 = w5.setCell ⟨w1.heap.size, 0, none⟩ (.slice y yl yc) := ⟨_, rfl⟩
        have V6 := hideB (show OutV W6 w1.heap.size (.slice y yl yc) p by rw [hW6]; exact V5.out.set0 _)
        have N6 := hideB (show OwnI W6 (w1.heap.size + 1) (.slice y yl yc) (xs ++ [(i : Int)]) by rw [hW6]; exact ownI_set N5.out _ _ (Nat.lt_succ_self _))
        have X6 := hideB (show IsS W6 b 9 (codesV l) by rw [hW6]; exact X5.out.set_other _ _ (by simp; omega))
        have O6 := hideB (show Out0 W6 w.heap.size by rw [hW6]; exact O5.out.set _ _ (by simp; omega))
        have B6 := hideB (show Below w.heap.size w W6 by rw [hW6]; exact B5.out.setCell (p := ⟨w1.heap.size, 0, none⟩) (by simp; omega) _)
        have z6 : w1.heap.size < W6.heap.size := by rw [hW6]; simp [World.setCell]; omega
        have HW6 := hideB hW6
        have g0 := V5.out.c0
        have g1 := V5.out.c1
        have h0 := V5.out.fr 0
        clear hW6 c0 c1 c2 f0 f1 d0 d1 d2 e0 e1 e2
        go_wp2_with fail
        rw [← HW6.out]
        clear g0 g1 h0
        obtain ⟨bl, offl, rfl, _, hcl⟩ := (HL.out.below B6.out).some (by omega)
        have cl := hcl i hil
        rw [HLI.out] at cl
        have k1 := V6.out.c1
        have j1 := V6.out.fr 1
        have V7 : Hid (OutV (W6.setCell ⟨w1.heap.size, 1, none⟩ (.int .i64 ((p : Int) + ((wd l i : Nat) : Int)))) w1.heap.size (.slice y yl yc) ((p + wd l i : Nat) : Int)) := by
          have := V6.out.set1 ((p : Int) + ((wd l i : Nat) : Int))
          unfold Hid
          rw [Int.natCast_add]
          exact this
        generalize wd l i = wv at cl HSM V7 hwl
        clear hcl HLI
        go_region
        all_goals (try go_wp2_with fail)
        all_goals go_roundw
        case rel => exact ⟨k + 1, p + wv, xs ++ [(i : Int)], .slice y yl yc, by go_num, by omega, HSM.out, V7.out, ownI_set N6.out _ _ (Nat.lt_succ_self _), X6.out.set_other _ _ (by simp; omega), O6.out.set _ _ (by simp; omega), Below.drew (B6.out.setCell (p := ⟨w1.heap.size, 1, none⟩) (by simp; omega) _), by simpa [World.setCell] using z6⟩
        case measure => simp [intOf]; omega
    · obtain rfl : k = m := by omega
      have HE : Hid (outS (st l t k) = (xs, (p : Int), 0)) := by
        unfold Hid
        rw [HST.out]
        rfl
      have hpos : ¬ (0 : Int) < (k : Int) - k := by omega
      go_wp2_with fail
      refine bodyPost_ret (v := .agg #[.slice vx xl vc, .int .i64 p, .int .i64 0]) (by simp [results, Try.results94, go_sem, d0, d1, d2]) rfl ⟨.slice vx xl vc, ?_, ?_, ?_⟩
      · rw [HE.out]
      · rw [HE.out]
        exact in_mono (OwnI.inn (ownI_set (ownI_set (ownI_set N3.out ⟨w.heap.size, 0, none⟩ _ (by simp; omega)) ⟨w.heap.size, 1, none⟩ _ (by simp; omega)) ⟨w.heap.size, 2, none⟩ _ (by simp; omega))) (by omega) (Nat.le_refl _)
      · exact ((B3.out.setCell (Nat.le_refl _) _).setCell (Nat.le_refl _) _).setCell (Nat.le_refl _) _
end Go.Proofs.Ytdnmbagdegbnfaa.Bi
