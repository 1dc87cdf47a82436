/- What both CodesOf answer. -/
import Derived.Test.YtdnmbagdegbnfaaCodesWalks
namespace Go.Proofs.Ytdnmbagdegbnfaa.Bi
open Go.RowKit
open Go.Proofs.Ytdnmbagdegbnfaa.In (Ints)
open Go.Proofs.Ytdnmbagdegbnfaa.St (IsS OwnIn IsO)

theorem inn_mono {w : World} {lo hi lo' hi' : Nat} {v : Value} {l : List ByteArray} (h : OwnIn w lo hi v l) (h1 : lo' ≤ lo) (h2 : hi ≤ hi') : OwnIn w lo' hi' v l := by
  rcases h with h | ⟨g, cap, hv, hg, hh, ho⟩
  · exact .inl h
  · exact .inr ⟨g, cap, hv, by omega, by omega, ho⟩
/-- an empty list that was written out -/
theorem inn_empty (w : World) : OwnIn (w.alloc (.cells #[] 9)) w.heap.size (w.heap.size + 1) (.slice (some ⟨w.heap.size, 0, none⟩) 0 0) [] :=
  .inr ⟨w.heap.size, 0, rfl, Nat.le_refl _, Nat.lt_succ_self _, #[], heap_alloc_last w _, fun j hj => absurd hj (Nat.not_lt_zero j)⟩
theorem inn_codes {w w' : World} {l : List Int} (h : IsS w' w.heap.size 9 (codesV l)) : OwnIn w' w.heap.size w'.heap.size (.slice (some ⟨w.heap.size, 0, none⟩) l.length l.length) (codesV l) := by
  have := inn_mono (hi' := w'.heap.size) (h.inn l.length) (Nat.le_refl _) h.lt
  rw [codesV_length] at this
  exact this

set_option maxHeartbeats 1000000 in
theorem codesOf_impl (l : List Int) (a : Option Addr) (cap B : Nat) (w : World) (hi : Ints w B a l) (hB : B ≤ w.heap.size) (hn : l.length ≤ 1048576) :
    Calls Try.prog 34 #[.slice a l.length cap] w fun e w' => ∃ v, e = .returned v ∧ OwnIn w' w.heap.size w'.heap.size v (codesR l) ∧ Below w.heap.size w w' := by
  cases hr : right l with
  | true =>
    rw [codesR_yes hr]
    refine (codes_yes l a cap B w hi hB hr).mono ?_
    rintro e w' ⟨rfl, hs, hb⟩
    exact ⟨_, rfl, inn_codes hs, hb⟩
  | false =>
    rw [codesR_no hr]
    have HR := hideB (right_impl l a cap B w hi hn)
    rw [hr] at HR
    clear hi hr
    generalize l.length = n at HR hn ⊢
    go_enter Try.func34, Try.ntmps34
    go_wp2_with fail
    refine HR.out.mono ?_
    rintro e w' ⟨rfl, hw⟩
    subst w'
    go_wp2_with fail
    go_ret
    exact ⟨_, rfl, .inl ⟨rfl, rfl⟩, Below.refl _ _⟩

set_option maxHeartbeats 1000000 in
theorem codesOf_spec (l : List Int) (a : Option Addr) (cap B : Nat) (w : World) (hi : Ints w B a l) (hB : B ≤ w.heap.size) (hn : l.length ≤ 1048576) :
    Calls Try.prog 35 #[.slice a l.length cap] w fun e w' => ∃ v, e = .returned v ∧ OwnIn w' w.heap.size w'.heap.size v (codesR l) ∧ Below w.heap.size w w' := by
  by_cases h4 : 400 < l.length
  · rw [codesR_no (right_no (l := l) (Or.inl (within_long (by omega))))]
    clear hi
    generalize l.length = n at h4 hn ⊢
    go_enter Try.func35, Try.ntmps35
    go_wp2_with fail
    go_ret
    exact ⟨_, rfl, inn_mono (inn_empty w) (Nat.le_refl _) (by simp), (Below.refl _ _).alloc (Nat.le_refl _) _⟩
  · have HS := hideB (sum_spec l a cap B w hi (by omega))
    cases hr : right l with
    | true =>
      rw [codesR_yes hr]
      rw [sumR_yes hr] at HS
      have HC := hideB (codes_spec l a cap B w hi hB hr)
      have HV : Hid (∀ w' : World, IsS w' w.heap.size 9 (codesV l) → OwnIn w' w.heap.size w'.heap.size (.slice (some ⟨w.heap.size, 0, none⟩) l.length l.length) (codesV l)) := fun w' h => inn_codes h
      clear hi hr
      generalize codesV l = cv at HC HV ⊢
      generalize l.length = n at HS HC HV hn h4 ⊢
      generalize csum l = cs at HS
      generalize above l = ab at HS
      have hcs : ¬ (cs : Int) < 0 := by omega
      go_enter Try.func35, Try.ntmps35
      go_wp2_with fail
      refine HS.out.mono ?_
      rintro e w' ⟨rfl, hw⟩
      subst w'
      go_wp2_with fail
      refine HC.out.mono ?_
      rintro e w' ⟨rfl, hs, hb⟩
      have HI := hideB (HV.out _ hs)
      clear hs
      go_wp2_with fail
      go_ret
      exact ⟨_, rfl, HI.out, hb⟩
    | false =>
      rw [codesR_no hr]
      rw [sumR_no hr] at HS
      clear hi hr
      generalize l.length = n at HS hn h4 ⊢
      go_enter Try.func35, Try.ntmps35
      go_wp2_with fail
      refine HS.out.mono ?_
      rintro e w' ⟨rfl, hw⟩
      subst w'
      go_wp2_with fail
      go_ret
      exact ⟨_, rfl, inn_mono (inn_empty w) (Nat.le_refl _) (by simp), (Below.refl _ _).alloc (Nat.le_refl _) _⟩
end Go.Proofs.Ytdnmbagdegbnfaa.Bi
