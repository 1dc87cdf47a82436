/- What impl.CodeGet answers; the specification's look for the next symbol. -/
import Derived.Test.YtdnmbagdegbnfaaGetImpl2
namespace Go.Proofs.Ytdnmbagdegbnfaa.Bi
open Go.RowKit Go.Maps
open Go.Proofs.Ytdnmbagdegbnfaa.In (Ints IsI OwnIn)
open Go.Proofs.Ytdnmbagdegbnfaa.St (IsS Strs)

theorem nil_in (w : World) (lo hi : Nat) : OwnIn w lo hi (.slice none 0 0) [] := .inl ⟨rfl, rfl⟩

set_option maxRecDepth 100000 in
set_option maxHeartbeats 2000000 in
theorem get_impl (l : List Int) (t : ByteArray) (m : Int) (a : Option Addr) (cap : Nat) (w : World) (hl : Ints w w.heap.size a l) (hn : l.length ≤ 1048576) (ht : t.size ≤ 1048576) :
    Calls Try.prog 26 #[.slice a l.length cap, .string t, .int .i64 m] w fun e w' => ∃ v, e = .returned (.agg #[v, .int .i64 (getR l t m).2.1, .int .i64 (getR l t m).2.2]) ∧ OwnIn w' w.heap.size w'.heap.size v (getR l t m).1 ∧ Below w.heap.size w w' := by
  by_cases h4 : 400 < l.length
  · rw [getR_size (Or.inl h4)]
    clear hl
    generalize l.length = n at hn h4 ⊢
    go_enter Try.func26, Try.ntmps26
    go_wp2_with fail
    refine bodyPost_ret (v := .agg #[.slice none 0 0, .int .i64 0, .int .i64 2]) (by simp [results, Try.results26, go_sem]) rfl ⟨.slice none 0 0, rfl, nil_in _ _ _, (Below.refl _ _).alloc (Nat.le_refl _) _⟩
  · have hd4 : decide (400 < (l.length : Int)) = false := decide_eq_false (by omega)
    by_cases h8 : 8000 < t.size
    · rw [getR_size (Or.inr h8)]
      clear hl
      generalize l.length = n at hn h4 hd4 ⊢
      go_enter Try.func26, Try.ntmps26
      go_wp2_with fail
      refine bodyPost_ret (v := .agg #[.slice none 0 0, .int .i64 0, .int .i64 2]) (by simp [results, Try.results26, go_sem]) rfl ⟨.slice none 0 0, rfl, nil_in _ _ _, (Below.refl _ _).alloc (Nat.le_refl _) _⟩
    · have hd8 : decide (8000 < (t.size : Int)) = false := decide_eq_false (by omega)
      have hno : ¬ (400 < l.length ∨ 8000 < t.size) := by omega
      have hl0 := (hl.below ((Below.refl w.heap.size w).alloc (Nat.le_refl _) (.cells #[.slice none 0 0, .int .i64 0, .int .i64 0] 37))).mono (by simp : w.heap.size ≤ (w.alloc (.cells #[.slice none 0 0, .int .i64 0, .int .i64 0] 37)).heap.size)
      have HWH := hideB (whole_impl l a cap _ _ hl0 hn)
      have HGO := hideB (good_impl t (w.alloc (.cells #[.slice none 0 0, .int .i64 0, .int .i64 0] 37)) ht)
      clear hl0
      cases hw : whole l with
      | false =>
        rw [getR_form hno (Or.inl hw)]
        rw [hw] at HWH
        clear hl hno
        generalize l.length = n at hn h4 hd4 HWH ⊢
        go_enter Try.func26, Try.ntmps26
        go_wp2_with fail
        refine HWH.out.mono ?_
        rintro e w' ⟨rfl, hw'⟩
        subst w'
        go_wp2_with fail
        refine bodyPost_ret (v := .agg #[.slice none 0 0, .int .i64 0, .int .i64 1]) (by simp [results, Try.results26, go_sem]) rfl ⟨.slice none 0 0, rfl, nil_in _ _ _, (Below.refl _ _).alloc (Nat.le_refl _) _⟩
      | true =>
        cases hg : good t with
        | false =>
          rw [getR_form hno (Or.inr (Or.inl hg))]
          rw [hw] at HWH
          rw [hg] at HGO
          clear hl hno hw
          generalize l.length = n at hn h4 hd4 HWH ⊢
          go_enter Try.func26, Try.ntmps26
          go_wp2_with fail
          refine HWH.out.mono ?_
          rintro e w' ⟨rfl, hw'⟩
          subst w'
          go_wp2_with fail
          refine HGO.out.mono ?_
          rintro e w' ⟨rfl, hw'⟩
          subst w'
          go_wp2_with fail
          refine bodyPost_ret (v := .agg #[.slice none 0 0, .int .i64 0, .int .i64 1]) (by simp [results, Try.results26, go_sem]) rfl ⟨.slice none 0 0, rfl, nil_in _ _ _, (Below.refl _ _).alloc (Nat.le_refl _) _⟩
        | true =>
          by_cases hm : m < 0
          · rw [getR_form hno (Or.inr (Or.inr (Or.inl hm)))]
            rw [hw] at HWH
            rw [hg] at HGO
            clear hl hno hw hg
            generalize l.length = n at hn h4 hd4 HWH ⊢
            go_enter Try.func26, Try.ntmps26
            go_wp2_with fail
            refine HWH.out.mono ?_
            rintro e w' ⟨rfl, hw'⟩
            subst w'
            go_wp2_with fail
            refine HGO.out.mono ?_
            rintro e w' ⟨rfl, hw'⟩
            subst w'
            go_wp2_with fail
            refine bodyPost_ret (v := .agg #[.slice none 0 0, .int .i64 0, .int .i64 1]) (by simp [results, Try.results26, go_sem]) rfl ⟨.slice none 0 0, rfl, nil_in _ _ _, (Below.refl _ _).alloc (Nat.le_refl _) _⟩
          · by_cases hm4 : 400 < m
            · rw [getR_form hno (Or.inr (Or.inr (Or.inr hm4)))]
              have hdm : decide (m < 0) = false := decide_eq_false hm
              rw [hw] at HWH
              rw [hg] at HGO
              clear hl hno hw hg
              generalize l.length = n at hn h4 hd4 HWH ⊢
              go_enter Try.func26, Try.ntmps26
              go_wp2_with fail
              refine HWH.out.mono ?_
              rintro e w' ⟨rfl, hw'⟩
              subst w'
              go_wp2_with fail
              refine HGO.out.mono ?_
              rintro e w' ⟨rfl, hw'⟩
              subst w'
              go_wp2_with fail
              refine bodyPost_ret (v := .agg #[.slice none 0 0, .int .i64 0, .int .i64 1]) (by simp [results, Try.results26, go_sem]) rfl ⟨.slice none 0 0, rfl, nil_in _ _ _, (Below.refl _ _).alloc (Nat.le_refl _) _⟩
            · obtain ⟨k, rfl⟩ : ∃ k : Nat, m = k := ⟨m.toNat, by omega⟩
              rw [getR_in hno hw hg (by omega)]
              exact get_yes l t k a cap w hl h4 h8 hw hg (by omega)
end Go.Proofs.Ytdnmbagdegbnfaa.Bi
