/- The walk of spec.l03Tree: of right entries it answers their tree, and writes nothing that was there. -/
import Derived.Test.YteiicafjjcnioaaDoorTreeHalf
import Derived.Test.YteiicafjjcnioaaDoorTreeRight
import Derived.Deep.RegionWith
import Derived.BigRegion
namespace Go.Proofs.YteiicafjjcnioaaDoor.Tr
open Go.RowKit
open Go.Proofs.YteiicafjjcnioaaDoor.St
open Go.Proofs.YteiicafjjcnioaaDoor.Sh (leafV nodeV all_any l03Leaf_any l03Node_any)

set_option maxRecDepth 100000 in
set_option maxHeartbeats 4000000 in
theorem tree_spec : ∀ (m n : Nat) (l : List ByteArray) (a : Option Addr) (cap B : Nat) (w : World), n ≤ m → l.length = n → n ≤ cap → n ≤ 64 → (∀ j (h : j < l.length), l[j].size ≤ 100) → Strs w B a l → B ≤ w.heap.size →
    Calls Tryd.prog 78 #[.slice a n cap] w fun e w' => e = .returned (.string (tree l)) ∧ Below w.heap.size w w' := by
  intro m
  induction m with
  | zero =>
    intro n l a cap B w hm hln hcap h64 hr hs hB
    obtain rfl : n = 0 := by omega
    have HT := hideT (tree_nil l hln)
    clear hs hr
    go_enter Tryd.func78, Tryd.ntmps78
    go_wp2_with fail
    refine (all_any ⟨#[]⟩ _ (by decide)).mono ?_
    rintro e w1 ⟨rfl, hb1⟩
    go_wp2_with fail
    go_ret
    exact ⟨Nu.ret_strJ HT.out.symm, hb1⟩
  | succ m ih =>
    intro n l a cap B w hm hln hcap h64 hr hs hB
    by_cases h0 : n = 0
    · exact ih n l a cap B w (by omega) hln hcap h64 hr hs hB
    · obtain ⟨b, off, rfl, hb, hc⟩ := hs.some (by omega)
      clear hs
      by_cases h1 : n = 1
      · have HT := hideT (tree_one l (by omega))
        have ci := hc 0 (by omega)
        rw [Nat.add_zero] at ci
        have hsz := hr 0 (by omega)
        obtain ⟨s, hse⟩ : ∃ s, s = l[0]'(by omega) := ⟨_, rfl⟩
        rw [← hse] at ci hsz
        have HSE := hideT hse
        subst h1
        clear hc hse hr ih
        go_enter Tryd.func78, Tryd.ntmps78
        go_wp2_with fail
        refine (l03Leaf_any s _ (by omega)).mono ?_
        rintro e w1 ⟨rfl, hb1⟩
        go_wp2_with fail
        go_ret
        exact ⟨Nu.ret_strJ (by rw [HT.out, ← HSE.out]), hb1⟩
      · have hp := half_pos n
        have hl := half_lt n (by omega)
        have HT := hideT (tree_two l (by omega))
        obtain ⟨k, hk⟩ : ∃ k, k = half n := ⟨_, rfl⟩
        have HK := hideT hk
        rw [← hk] at hp hl
        clear hk
        have I1 : Hid (∀ W : World, Below w.heap.size w W → Calls Tryd.prog 78 #[.slice (some ⟨b, off, none⟩) k cap] W fun e w' => e = .returned (.string (tree (l.take k))) ∧ Below W.heap.size W w') := fun W hW =>
          ih k (l.take k) (some ⟨b, off, none⟩) cap B W (by omega) (by rw [List.length_take]; omega) (by omega) (by omega) (fun j hj => by rw [List.getElem_take]; exact hr j _) ((Strs.take hb hc).after hW hB) (Nat.le_trans hB hW.size)
        have I2 : Hid (∀ W : World, Below w.heap.size w W → Calls Tryd.prog 78 #[.slice (some ⟨b, off + k, none⟩) (n - k) (cap - k)] W fun e w' => e = .returned (.string (tree (l.drop k))) ∧ Below W.heap.size W w') := fun W hW =>
          ih (n - k) (l.drop k) (some ⟨b, off + k, none⟩) (cap - k) B W (by omega) (by rw [List.length_drop]; omega) (by omega) (by omega) (fun j hj => by rw [List.getElem_drop]; exact hr _ _) ((Strs.drop hb hc).after hW hB) (Nat.le_trans hB hW.size)
        have HLN := hideT hln
        have s1 := tree_size (l.take k)
        have s2 := tree_size (l.drop k)
        clear hc hr ih hln
        have i0 : ¬ (n : Int) = 0 := by omega
        have i1 : ¬ (n : Int) = 1 := by omega
        have g1 : (k : Int) ≤ cap := by omega
        have g2 : (k : Int) ≤ n := by omega
        have g4 : ¬ cap = k := by omega
        have HH := hideT (half_spec n w (by omega) (by omega))
        rw [← HK.out] at HH
        go_enter Tryd.func78, Tryd.ntmps78
        go_wp2_with fail
        refine HH.out.mono ?_
        rintro e w1 ⟨rfl, hw⟩
        subst w1
        go_wp2_with fail
        go_region_with (first | (go_at_call 78; (with_reducible refine (I1.out _ ?_).mono ?_); (· exact (Below.refl _ _).drew); rintro e w2 ⟨rfl, hb2⟩; have HB2 := hideT (show Below w.heap.size w w2 from ⟨hb2.os, hb2.tape, hb2.output, hb2.size, hb2.block⟩); clear hb2) | (go_at_call 78; (with_reducible refine (I2.out w2 HB2.out).mono ?_); rintro e w3 ⟨rfl, hb3⟩; have HB3 := hideT (HB2.out.trans (hb3.mono HB2.out.size)); clear hb3) | (go_at_call 88; refine (l03Node_any (tree (l.take k)) (tree (l.drop k)) w3 ?_ ?_).mono ?_; (· omega); (· omega); rintro e w4 ⟨rfl, hb4⟩; have HB4 := hideT (HB3.out.trans (hb4.mono HB3.out.size)); clear hb4))
        all_goals (try go_wp2_with fail)
        all_goals go_ret
        all_goals exact ⟨Nu.ret_strJ (by rw [HT.out, HLN.out, ← HK.out]), HB4.out⟩
end Go.Proofs.YteiicafjjcnioaaDoor.Tr
