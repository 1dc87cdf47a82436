/- The walk of impl.treeOf: of right entries it answers their tree, and writes nothing that was there. -/
import Derived.Test.YteiicafjjcnioaaDoorTreeLen
import Derived.Test.YteiicafjjcnioaaDoorTreeRight
namespace Go.Proofs.YteiicafjjcnioaaDoor.Tr
open Go.RowKit
open Go.Proofs.YteiicafjjcnioaaDoor.St
open Go.Proofs.YteiicafjjcnioaaDoor.Sh (Vars leafV nodeV leafR nodeR leaf_impl node_impl digest_impl digestV leafR_yes nodeR_yes below3)

set_option maxRecDepth 100000 in
set_option maxHeartbeats 1000000 in
theorem cut_any (b off n cap : Nat) (w : World) (h2 : 2 ≤ n) (hn : n ≤ 1048576) (hc : n ≤ cap) :
    Calls Tryd.prog 101 #[.slice (some ⟨b, off, none⟩) n cap] w fun e w' => e = .returned (.tuple #[.slice (some ⟨b, off, none⟩) (half n) (half n), .slice (some ⟨b, off + half n, none⟩) (n - half n) (n - half n)]) ∧ Below w.heap.size w w' ∧ w'.heap = w.heap := by
  have hp := half_pos n
  have hl := half_lt n h2
  go_enter Tryd.func101, Tryd.ntmps101
  go_wp2_with fail
  refine (half_impl n w h2 (by omega)).mono ?_
  rintro e w1 ⟨rfl, hw⟩
  subst w1
  obtain ⟨k, hk⟩ : ∃ k, k = half n := ⟨_, rfl⟩
  rw [← hk] at hp hl ⊢
  have HK := hideT hk
  clear hk
  have g1 : (k : Int) ≤ cap := by omega
  have g2 : (k : Int) ≤ n := by omega
  have g3 : ¬ n = k := by omega
  have g4 : ¬ cap = k := by omega
  go_wp2_with fail
  go_region
  all_goals (try go_wp2_with fail)
  all_goals go_ret2
  all_goals exact ⟨by rw [← HK.out]; rfl, (Below.refl _ _).drew, rfl⟩

theorem empty_dig : digestV ⟨#[]⟩ = Sh.sha ⟨#[]⟩ := by
  unfold digestV
  rw [if_pos (by decide)]

set_option maxRecDepth 100000 in
set_option maxHeartbeats 2000000 in
theorem tree_impl : ∀ (m n : Nat) (l : List ByteArray) (a : Option Addr) (cap B : Nat) (w : World), n ≤ m → l.length = n → n ≤ cap → n ≤ 64 → (∀ j (h : j < l.length), l[j].size ≤ 100) → Strs w B a l → B ≤ w.heap.size → Vars w →
    Calls Tryd.prog 75 #[.slice a n cap] w fun e w' => e = .returned (.string (tree l)) ∧ Below w.heap.size w w' := by
  intro m
  induction m with
  | zero =>
    intro n l a cap B w hm hln hcap h64 hr hs hB hV
    obtain rfl : n = 0 := by omega
    have HT := hideT (tree_nil l hln)
    have HD := hideT empty_dig
    clear hs hr
    have HV := hideT hV
    clear hV
    go_enter Tryd.func75, Tryd.ntmps75
    go_wp2_with fail
    refine (digest_impl ⟨#[]⟩ _ (by decide) HV.out).mono ?_
    rw [HD.out]
    rintro e w1 ⟨rfl, hb1⟩
    go_wp2_with fail
    go_ret
    exact ⟨Nu.ret_strJ HT.out.symm, hb1⟩
  | succ m ih =>
    intro n l a cap B w hm hln hcap h64 hr hs hB hV
    by_cases h0 : n = 0
    · exact ih n l a cap B w (by omega) hln hcap h64 hr hs hB hV
    · obtain ⟨b, off, rfl, hb, hc⟩ := hs.some (by omega)
      have HV := hideT hV
      have hv2 := hV.two
      clear hV hs
      by_cases h1 : n = 1
      · have HT := hideT (tree_one l (by omega))
        have ci := hc 0 (by omega)
        rw [Nat.add_zero] at ci
        have hsz := hr 0 (by omega)
        obtain ⟨s, hse⟩ : ∃ s, s = l[0]'(by omega) := ⟨_, rfl⟩
        rw [← hse] at ci hsz
        have HSE := hideT hse
        have HL := hideT (leafR_yes s (by omega))
        subst h1
        clear hc hse hr ih
        go_enter Tryd.func75, Tryd.ntmps75
        go_wp2_with fail
        refine (leaf_impl s _ (by unfold maxLen; omega) HV.out).mono ?_
        rw [HL.out]
        rintro e w1 ⟨rfl, hb1⟩
        go_wp2_with fail
        go_ret
        exact ⟨Nu.ret_strJ (by rw [HT.out, ← HSE.out]), hb1⟩
      · have hp := half_pos n
        have hl := half_lt n (by omega)
        have HT := hideT (tree_two l (by omega))
        have HI := hideT ih
        have HR := hideT hr
        have HC := hideT hc
        have HLN := hideT hln
        clear hc hr ih
        have i0 : ¬ (n : Int) = 0 := by omega
        have i1 : ¬ (n : Int) = 1 := by omega
        go_enter Tryd.func75, Tryd.ntmps75
        go_wp2_with fail
        refine (cut_any b off n cap w (by omega) (by omega) hcap).mono ?_
        rintro e w1 ⟨rfl, hb1, hh1⟩
        have V1 := hideT (HV.out.below hb1 hv2)
        have HB1 := hideT hb1
        clear hb1 hh1
        go_wp2_with fail
        refine (HI.out (half n) (l.take (half n)) (some ⟨b, off, none⟩) (half n) B w1 (by omega) (by rw [List.length_take]; omega) (Nat.le_refl _) (by omega) (fun j hj => by rw [List.getElem_take]; exact HR.out j _) ((Strs.take hb HC.out).after HB1.out hB) (Nat.le_trans hB HB1.out.size) V1.out).mono ?_
        rintro e w2 ⟨rfl, hb2⟩
        have HB2 := hideT (HB1.out.trans (hb2.mono HB1.out.size))
        have V2 := hideT (HV.out.below HB2.out hv2)
        clear hb2
        go_wp2_with fail
        refine (HI.out (n - half n) (l.drop (half n)) (some ⟨b, off + half n, none⟩) (n - half n) B w2 (by omega) (by rw [List.length_drop]; omega) (Nat.le_refl _) (by omega) (fun j hj => by rw [List.getElem_drop]; exact HR.out _ _) ((Strs.drop hb HC.out).after HB2.out hB) (Nat.le_trans hB HB2.out.size) V2.out).mono ?_
        rintro e w3 ⟨rfl, hb3⟩
        have HB3 := hideT (HB2.out.trans (hb3.mono HB2.out.size))
        have V3 := hideT (HV.out.below HB3.out hv2)
        clear hb3
        have HN := hideT (nodeR_yes (tree (l.take (half n))) (tree (l.drop (half n))) (tree_size _) (tree_size _))
        go_wp2_with fail
        refine (node_impl (tree (l.take (half n))) (tree (l.drop (half n))) _ V3.out).mono ?_
        rw [HN.out]
        rintro e w4 ⟨rfl, hb4⟩
        have HB4 := hideT (HB3.out.trans (hb4.mono HB3.out.size))
        clear hb4
        go_wp2_with fail
        go_ret
        exact ⟨Nu.ret_strJ (by rw [HT.out, HLN.out]), HB4.out⟩
end Go.Proofs.YteiicafjjcnioaaDoor.Tr
