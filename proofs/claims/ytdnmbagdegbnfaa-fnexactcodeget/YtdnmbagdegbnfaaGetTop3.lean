/- What the specification's CodeGet answers; the laws' own helpers on such answers. -/
import Derived.Test.YtdnmbagdegbnfaaGetSpec2
import Derived.Test.YtdnmbagdegbnfaaGetTop2
namespace Go.Proofs.Ytdnmbagdegbnfaa.Bi
open Go.RowKit
open Go.Proofs.Ytdnmbagdegbnfaa.In (Ints IsI OwnIn OwnI)
open Go.Proofs.Ytdnmbagdegbnfaa.St (Aft)

set_option maxRecDepth 100000 in
set_option maxHeartbeats 2000000 in
theorem get_spec (l : List Int) (t : ByteArray) (m : Int) (a : Option Addr) (cap : Nat) (w : World) (hl : Ints w w.heap.size a l) (hn : l.length ≤ 1048576) (ht : t.size ≤ 1048576) :
    Calls Try.prog 27 #[.slice a l.length cap, .string t, .int .i64 m] w fun e w' => ∃ v, e = .returned (.agg #[v, .int .i64 (getR l t m).2.1, .int .i64 (getR l t m).2.2]) ∧ OwnIn w' w.heap.size w'.heap.size v (getR l t m).1 ∧ Below w.heap.size w w' := by
  by_cases h4 : 400 < l.length
  · rw [getR_size (Or.inl h4)]
    clear hl
    generalize l.length = n at hn h4 ⊢
    go_enter Try.func27, Try.ntmps27
    go_wp2_with fail
    refine bodyPost_ret (v := .agg #[.slice none 0 0, .int .i64 0, .int .i64 2]) (by simp [results, Try.results27, go_sem]) rfl ⟨.slice none 0 0, rfl, nil_in _ _ _, (Below.refl _ _).alloc (Nat.le_refl _) _⟩
  · have hd4 : decide (400 < (l.length : Int)) = false := decide_eq_false (by omega)
    by_cases h8 : 8000 < t.size
    · rw [getR_size (Or.inr h8)]
      clear hl
      generalize l.length = n at hn h4 hd4 ⊢
      go_enter Try.func27, Try.ntmps27
      go_wp2_with fail
      refine bodyPost_ret (v := .agg #[.slice none 0 0, .int .i64 0, .int .i64 2]) (by simp [results, Try.results27, go_sem]) rfl ⟨.slice none 0 0, rfl, nil_in _ _ _, (Below.refl _ _).alloc (Nat.le_refl _) _⟩
    · have hd8 : decide (8000 < (t.size : Int)) = false := decide_eq_false (by omega)
      have hno : ¬ (400 < l.length ∨ 8000 < t.size) := by omega
      have B0 := hideB ((Below.refl w.heap.size w).alloc (Nat.le_refl _) (.cells #[.slice none 0 0, .int .i64 0, .int .i64 0] 37))
      have hl0 := (hl.below B0.out).mono (by simp : w.heap.size ≤ (w.alloc (.cells #[.slice none 0 0, .int .i64 0, .int .i64 0] 37)).heap.size)
      have HWH := hideB (l04Whole_any l a cap _ _ hl0 (by omega))
      have HGO := hideB (good_spec t (w.alloc (.cells #[.slice none 0 0, .int .i64 0, .int .i64 0] 37)) ht)
      cases hw : whole l with
      | false =>
        rw [getR_form hno (Or.inl hw)]
        rw [hw] at HWH
        clear hl hno hl0
        generalize l.length = n at hn h4 hd4 HWH ⊢
        go_enter Try.func27, Try.ntmps27
        go_wp2_with fail
        refine HWH.out.mono ?_
        rintro e w' ⟨rfl, hw'⟩
        subst w'
        go_wp2_with fail
        refine bodyPost_ret (v := .agg #[.slice none 0 0, .int .i64 0, .int .i64 1]) (by simp [results, Try.results27, go_sem]) rfl ⟨.slice none 0 0, rfl, nil_in _ _ _, (Below.refl _ _).alloc (Nat.le_refl _) _⟩
      | true =>
        cases hg : good t with
        | false =>
          rw [getR_form hno (Or.inr (Or.inl hg))]
          rw [hw] at HWH
          rw [hg] at HGO
          clear hl hno hw hl0
          generalize l.length = n at hn h4 hd4 HWH ⊢
          go_enter Try.func27, Try.ntmps27
          go_wp2_with fail
          refine HWH.out.mono ?_
          rintro e w' ⟨rfl, hw'⟩
          subst w'
          go_wp2_with fail
          refine HGO.out.mono ?_
          rintro e w' ⟨rfl, hw'⟩
          subst w'
          go_wp2_with fail
          refine bodyPost_ret (v := .agg #[.slice none 0 0, .int .i64 0, .int .i64 1]) (by simp [results, Try.results27, go_sem]) rfl ⟨.slice none 0 0, rfl, nil_in _ _ _, (Below.refl _ _).alloc (Nat.le_refl _) _⟩
        | true =>
          by_cases hm : m < 0 ∨ 400 < m
          · rw [getR_form hno (Or.inr (Or.inr hm))]
            have HIS := hideB (is_no m 0 400 (w.alloc (.cells #[.slice none 0 0, .int .i64 0, .int .i64 0] 37)) hm)
            rw [hw] at HWH
            rw [hg] at HGO
            clear hl hno hw hg hm hl0
            generalize l.length = n at hn h4 hd4 HWH ⊢
            go_enter Try.func27, Try.ntmps27
            go_wp2_with fail
            refine HWH.out.mono ?_
            rintro e w' ⟨rfl, hw'⟩
            subst w'
            go_wp2_with fail
            refine HGO.out.mono ?_
            rintro e w' ⟨rfl, hw'⟩
            subst w'
            go_wp2_with fail
            refine HIS.out.mono ?_
            rintro e w' ⟨rfl, hw'⟩
            subst w'
            go_wp2_with fail
            refine bodyPost_ret (v := .agg #[.slice none 0 0, .int .i64 0, .int .i64 1]) (by simp [results, Try.results27, go_sem]) rfl ⟨.slice none 0 0, rfl, nil_in _ _ _, (Below.refl _ _).alloc (Nat.le_refl _) _⟩
          · obtain ⟨k, rfl⟩ : ∃ k : Nat, m = k := ⟨m.toNat, by omega⟩
            have HIS := hideB (is_yes k 0 400 (w.alloc (.cells #[.slice none 0 0, .int .i64 0, .int .i64 0] 37)) (by omega) (by omega))
            have HGE := hideB (l04Get_any l t k a cap _ hl0 (by omega) (whole_right hw) (by omega))
            rw [getR_in hno hw hg (by omega)]
            rw [hw] at HWH
            rw [hg] at HGO
            have hz0 : (w.alloc (.cells #[.slice none 0 0, .int .i64 0, .int .i64 0] 37)).heap.size = w.heap.size + 1 := by simp
            have O0 := hideB (Out0.new w)
            clear hl hno hw hg hm hl0
            obtain ⟨q, hq⟩ : ∃ q, q = outS (st l t k) := ⟨_, rfl⟩
            rw [← hq] at HGE ⊢
            clear hq
            generalize l.length = n at hn h4 hd4 HWH HGE ⊢
            go_enter Try.func27, Try.ntmps27
            go_wp2_with fail
            refine HWH.out.mono ?_
            rintro e w' ⟨rfl, hw'⟩
            subst w'
            go_wp2_with fail
            refine HGO.out.mono ?_
            rintro e w' ⟨rfl, hw'⟩
            subst w'
            go_wp2_with fail
            refine HIS.out.mono ?_
            rintro e w' ⟨rfl, hw'⟩
            subst w'
            go_wp2_with fail
            refine HGE.out.mono ?_
            rintro e w2 ⟨v, rfl, hv, hb2⟩
            rw [hz0] at hv hb2
            have V2 := hideB hv
            have B2 := hideB (B0.out.trans (hb2.mono (Nat.le_succ _)))
            have O2 := hideB (O0.out.below hb2 (Nat.lt_succ_self _))
            obtain ⟨x, c, rfl, _⟩ := hv.ints
            obtain ⟨ql, hql⟩ : ∃ ql, ql = q.1.length := ⟨_, rfl⟩
            rw [← hql] at V2 ⊢
            clear hv hb2 hz0 hql
            have c0 := O2.out.c0
            have c1 := O2.out.c1
            have c2 := O2.out.c2
            have f0 := O2.out.fr 0
            have f1 := O2.out.fr 1
            have f2 := O2.out.fr 2
            go_wp2_with fail
            refine bodyPost_ret (v := .agg #[.slice x ql c, .int .i64 q.2.1, .int .i64 q.2.2]) (by simp [results, Try.results27, go_sem, c0, c1, c2]) rfl ⟨.slice x ql c, rfl, ?_, ?_⟩
            · have h1 := in_mono (hi' := w2.heap.size) V2.out (Nat.le_succ w.heap.size) (Nat.le_refl _)
              have h2 : OwnIn (((w2.setCell ⟨w.heap.size, 0, none⟩ (.slice x ql c)).setCell ⟨w.heap.size, 1, none⟩ (.int .i64 q.2.1)).setCell ⟨w.heap.size, 2, none⟩ (.int .i64 q.2.2)) (w.heap.size + 1) w2.heap.size (.slice x ql c) q.1 := by
                rcases V2.out with h | ⟨g, cc, hv, hg, hh, ho⟩
                · exact .inl h
                · exact .inr ⟨g, cc, hv, hg, hh, ((ho.of_heap (heap_setCell_other _ ⟨w.heap.size, 0, none⟩ g _ (by simp; omega))).of_heap (heap_setCell_other _ ⟨w.heap.size, 1, none⟩ g _ (by simp; omega))).of_heap (heap_setCell_other _ ⟨w.heap.size, 2, none⟩ g _ (by simp; omega))⟩
              exact in_mono h2 (Nat.le_succ _) (by simp [World.setCell])
            · exact ((B2.out.setCell (Nat.le_refl _) _).setCell (Nat.le_refl _) _).setCell (Nat.le_refl _) _

set_option maxHeartbeats 1000000 in
theorem eqN_any {w : World} {lo hi lo' hi' : Nat} {u v : Value} {q : List Int} (p e : Int) (hu : OwnIn w lo hi u q) (hv : OwnIn w lo' hi' v q) (hn : q.length ≤ 1048576) (h1 : hi ≤ w.heap.size) (h2 : hi' ≤ w.heap.size) :
    Calls Try.prog 69 #[.agg #[u, .int .i64 p, .int .i64 e], .agg #[v, .int .i64 p, .int .i64 e]] w fun r w' => r = .returned (.bool true) ∧ Below w.heap.size w w' := by
  obtain ⟨W, hW⟩ : ∃ W, W = (w.alloc (.cells #[u, .int .i64 p, .int .i64 e] 37)).alloc (.cells #[v, .int .i64 p, .int .i64 e] 37) := ⟨_, rfl⟩
  have BW : Below w.heap.size w W := by rw [hW]; exact ((Below.refl _ _).alloc (Nat.le_refl _) _).alloc (by simp) _
  have HE := hideB (In.eq_in (hu.below BW h1) (hv.below BW h2) hn)
  have HB := hideB BW
  have a0 : W.heap[w.heap.size]? = some (.cells #[u, .int .i64 p, .int .i64 e] 37 (0, 0)) := by rw [hW, Below.heap_alloc _ _ w.heap.size (by simp)]; exact heap_alloc_last w _
  have a1 : W.heap[w.heap.size + 1]? = some (.cells #[v, .int .i64 p, .int .i64 e] 37 (0, 0)) := by
    have := heap_alloc_last (w.alloc (.cells #[u, .int .i64 p, .int .i64 e] 37)) (.cells #[v, .int .i64 p, .int .i64 e] 37)
    rw [hW]
    simpa using this
  have A0 := hideB a0
  have A1 := hideB a1
  obtain ⟨x, c, rfl, _⟩ := hu.ints
  obtain ⟨x', c', rfl, _⟩ := hv.ints
  generalize q.length = n at HE hn A0 A1 hW ⊢
  clear hu hv BW a0 a1
  go_enter Try.func69, Try.ntmps69
  go_wp2_with fail
  rw [← hW]
  have HW := hideB hW
  clear hW
  refine HE.out.mono ?_
  rintro e w1 ⟨rfl, hb1⟩
  have d1 := (cell_of_row w1 w.heap.size 1 _ _ _ ((hb1.block w.heap.size (Array.getElem?_eq_some_iff.1 A0.out).1).trans A0.out)).trans rfl
  have d2 := (cell_of_row w1 w.heap.size 2 _ _ _ ((hb1.block w.heap.size (Array.getElem?_eq_some_iff.1 A0.out).1).trans A0.out)).trans rfl
  have e1 := (cell_of_row w1 (w.heap.size + 1) 1 _ _ _ ((hb1.block (w.heap.size + 1) (Array.getElem?_eq_some_iff.1 A1.out).1).trans A1.out)).trans rfl
  have e2 := (cell_of_row w1 (w.heap.size + 1) 2 _ _ _ ((hb1.block (w.heap.size + 1) (Array.getElem?_eq_some_iff.1 A1.out).1).trans A1.out)).trans rfl
  have B1 := hideB (HB.out.trans (hb1.mono HB.out.size))
  simp at d1 d2 e1 e2
  clear hb1
  go_wp2_with fail
  go_ret
  exact ⟨rfl, B1.out⟩

set_option maxHeartbeats 1000000 in
theorem markN_any {w : World} {lo hi : Nat} {u : Value} {q : List Int} (p e : Int) (hu : OwnIn w lo hi u q) (hn : q.length ≤ 1048576) (h1 : hi ≤ w.heap.size) :
    Calls Try.prog 70 #[.agg #[u, .int .i64 p, .int .i64 e], .int .i64 1] w fun r w' => r = .returned (.int .i64 (1 + q.length)) ∧ OwnIn w' lo hi u (In.marks 1 q.length) ∧ ∃ g, (g = lo ∨ (lo ≤ g ∧ g < hi)) ∧ Aft g w w' := by
  have BW : Below w.heap.size w (w.alloc (.cells #[u, .int .i64 p, .int .i64 e] 37)) := (Below.refl _ _).alloc (Nat.le_refl _) _
  have HM := hideB (In.mark_in (hu.below BW h1) hn)
  have HB := hideB BW
  obtain ⟨x, c, rfl, _⟩ := hu.ints
  generalize hq : q.length = n at HM hn ⊢
  clear hu BW
  go_enter Try.func70, Try.ntmps70
  go_wp2_with fail
  refine HM.out.mono ?_
  rintro e w1 ⟨rfl, hm1, g, hg, ha⟩
  have M1 := hideB hm1
  have A1 : Hid (Aft g w w1) := ⟨ha.1, ha.2.1, ha.2.2.1, Nat.le_trans (by simp) ha.2.2.2.1, fun k hk hkg => (ha.2.2.2.2 k (by simp; omega) hkg).trans (Below.heap_alloc w _ k hk)⟩
  clear hm1 ha
  go_wp2_with fail
  go_ret
  exact ⟨rfl, M1.out, g, hg, A1.out⟩

set_option maxHeartbeats 1000000 in
theorem heldN_any {w : World} {lo hi n : Nat} {u : Value} (p e : Int) (hu : OwnIn w lo hi u (In.marks 1 n)) (hn : n ≤ 1048576) (h1 : hi ≤ w.heap.size) :
    Calls Try.prog 71 #[.agg #[u, .int .i64 p, .int .i64 e], .int .i64 1] w fun r w' => r = .returned (.int .i64 (1 + n)) ∧ Below w.heap.size w w' := by
  have BW : Below w.heap.size w (w.alloc (.cells #[u, .int .i64 p, .int .i64 e] 37)) := (Below.refl _ _).alloc (Nat.le_refl _) _
  have HM := hideB (In.held_in (hu.below BW h1) hn)
  have HB := hideB BW
  obtain ⟨x, c, rfl, _⟩ := hu.ints
  generalize (In.marks 1 n).length = k at HM HB ⊢
  have hpos : ¬ (1 + (n : Int)) < 0 := by omega
  clear hu BW
  go_enter Try.func71, Try.ntmps71
  go_wp2_with fail
  refine HM.out.mono ?_
  rintro e w1 ⟨rfl, hb1⟩
  have B1 := hideB (HB.out.trans (hb1.mono HB.out.size))
  clear hb1
  go_wp2_with fail
  go_ret
  exact ⟨rfl, B1.out⟩
end Go.Proofs.Ytdnmbagdegbnfaa.Bi
