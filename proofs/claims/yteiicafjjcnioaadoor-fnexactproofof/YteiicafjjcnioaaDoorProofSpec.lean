/- The walk of spec.l03Proof: the proof of the first of right entries, in memory of its own. -/
import Derived.Test.YteiicafjjcnioaaDoorTreeSpec
import Derived.Test.YteiicafjjcnioaaDoorProofPlain
import Derived.Test.YteiicafjjcnioaaDoorProofWalks
import Derived.Test.YteiicafjjcnioaaDoorStrOwn
import Derived.Test.YteiicafjjcnioaaDoorShaAppend
namespace Go.Proofs.YteiicafjjcnioaaDoor.Tr
open Go.RowKit
open Go.Proofs.YteiicafjjcnioaaDoor.St
open Go.Proofs.YteiicafjjcnioaaDoor.Sh (step_append_own own_empty)


set_option maxRecDepth 100000 in
set_option maxHeartbeats 8000000 in
theorem proof_spec : ∀ (m n i : Nat) (bb : Bool) (l : List ByteArray) (a : Option Addr) (cap B : Nat) (w : World), n ≤ m → l.length = n → 1 ≤ i → i ≤ n → n ≤ cap → n ≤ 64 → (∀ j (h : j < l.length), l[j].size ≤ 100) → Strs w B a l → B ≤ w.heap.size →
    Calls Tryd.prog 91 #[.int .i64 i, .slice a n cap, .bool bb] w fun e w' => ∃ v, e = .returned v ∧ OwnS w' w.heap.size v (proof l i bb) ∧ Below w.heap.size w w' := by
  intro m
  induction m with
  | zero =>
    intro n i bb l a cap B w hm hln h1
    omega
  | succ m ih =>
    intro n i bb l a cap B w hm hln h1 hi hcap h64 hr hs hB
    obtain ⟨b, off, rfl, hb, hc⟩ := hs.some (by omega)
    obtain ⟨i0, hif, hz0, hz1, hz2⟩ := info_parts Tryd.infoS9
    by_cases hn1 : i = n
    · subst hn1
      cases bb with
      | true =>
        have HP := hideT (proof_whole l i hln)
        clear hc hr ih hs
        go_enter Tryd.func91, Tryd.ntmps91
        go_wp2_with fail
        go_ret
        exact ⟨_, rfl, by rw [HP.out]; exact own_empty _ _ _ (Nat.le_refl _), (Below.refl _ _).alloc (Nat.le_refl _) _⟩
      | false =>
        have HP := hideT (proof_part l i hln)
        have HT := hideT (tree_spec i i l (some ⟨b, off, none⟩) cap B w (Nat.le_refl _) hln hcap h64 hr hs hB)
        clear hc hr ih hs
        go_enter Tryd.func91, Tryd.ntmps91
        go_wp2_with fail
        refine HT.out.mono ?_
        rintro e w1 ⟨rfl, hb1⟩
        have HB1 := hideT hb1
        clear hb1
        go_wp2_with fail
        go_ret
        exact ⟨_, rfl, by rw [HP.out]; exact own_one _ _ _ HB1.out.size, HB1.out.alloc HB1.out.size _⟩
    · have hp := half_pos n
      have hl := half_lt n (by omega)
      have HPL := hideT (proof_left l i bb (by omega) (by omega))
      have HPR := hideT (proof_right l i bb (by omega) (by omega))
      have HLE := hideT (proof_length m)
      clear hs
      obtain ⟨k, hk⟩ : ∃ k, k = half n := ⟨_, rfl⟩
      have HH := hideT (half_spec n w (by omega) (by omega))
      rw [hln, ← hk] at HPL HPR
      rw [← hk] at hp hl HH
      have TL : Hid (∀ W : World, Below w.heap.size w W → Calls Tryd.prog 78 #[.slice (some ⟨b, off, none⟩) k cap] W fun e w' => e = .returned (.string (tree (l.take k))) ∧ Below W.heap.size W w') := fun W hW =>
        tree_spec k k (l.take k) (some ⟨b, off, none⟩) cap B W (Nat.le_refl _) (by rw [List.length_take]; omega) (by omega) (by omega) (fun j hj => by rw [List.getElem_take]; exact hr j _) ((Strs.take hb hc).after hW hB) (Nat.le_trans hB hW.size)
      have TR : Hid (∀ W : World, Below w.heap.size w W → Calls Tryd.prog 78 #[.slice (some ⟨b, off + k, none⟩) (n - k) (cap - k)] W fun e w' => e = .returned (.string (tree (l.drop k))) ∧ Below W.heap.size W w') := fun W hW =>
        tree_spec (n - k) (n - k) (l.drop k) (some ⟨b, off + k, none⟩) (cap - k) B W (Nat.le_refl _) (by rw [List.length_drop]; omega) (by omega) (by omega) (fun j hj => by rw [List.getElem_drop]; exact hr _ _) ((Strs.drop hb hc).after hW hB) (Nat.le_trans hB hW.size)
      have PL : Hid (i ≤ k → ∀ W : World, Below w.heap.size w W → Calls Tryd.prog 91 #[.int .i64 i, .slice (some ⟨b, off, none⟩) k cap, .bool bb] W fun e w' => ∃ v, e = .returned v ∧ OwnS w' W.heap.size v (proof (l.take k) i bb) ∧ Below W.heap.size W w') := fun hik W hW =>
        ih k i bb (l.take k) (some ⟨b, off, none⟩) cap B W (by omega) (by rw [List.length_take]; omega) h1 hik (by omega) (by omega) (fun j hj => by rw [List.getElem_take]; exact hr j _) ((Strs.take hb hc).after hW hB) (Nat.le_trans hB hW.size)
      have PR : Hid (¬ i ≤ k → ∀ W : World, Below w.heap.size w W → Calls Tryd.prog 91 #[.int .i64 ((i : Int) - k), .slice (some ⟨b, off + k, none⟩) (n - k) (cap - k), .bool false] W fun e w' => ∃ v, e = .returned v ∧ OwnS w' W.heap.size v (proof (l.drop k) (i - k) false) ∧ Below W.heap.size W w') := fun hik W hW => by
        have := ih (n - k) (i - k) false (l.drop k) (some ⟨b, off + k, none⟩) (cap - k) B W (by omega) (by rw [List.length_drop]; omega) (by omega) (by omega) (by omega) (by omega) (fun j hj => by rw [List.getElem_drop]; exact hr _ _) ((Strs.drop hb hc).after hW hB) (Nat.le_trans hB hW.size)
        rw [show ((i - k : Nat) : Int) = (i : Int) - k by omega] at this
        exact this
      have i1 : ¬ (i : Int) = n := by omega
      have g1 : (k : Int) ≤ cap := by omega
      have g2 : (k : Int) ≤ n := by omega
      have g4 : ¬ cap = k := by omega
      have g5 : IntKind.i64.wrap ((i : Int) - k) = (i : Int) - k := by simp [IntKind.wrap, IntKind.bits, IntKind.signed]; omega
      clear hc hr ih hk
      by_cases hik : i ≤ k
      · have HE := hideT (HPL.out hik)
        have hn3 : (proof (l.take k) i bb).length + 1 ≤ 66 := by have := HLE.out (l.take k) i bb (by rw [List.length_take]; omega); rw [List.length_take] at this; omega
        have HPC := hideT (PL.out hik)
        go_enter Tryd.func91, Tryd.ntmps91
        go_wp2_with fail
        refine HH.out.mono ?_
        rintro e w1 ⟨rfl, hw⟩
        subst w1
        go_wp2_with fail
        go_region_law (first | (refine step_append_own rfl (.tmp 28) (.tmp 33) 33 rfl w.heap.size 9 i0 (.string ⟨#[]⟩) 1 16 Tryd.underlying33 hif hz0 hz1 hz2 rfl (by decide) v (proof (l.take k) i bb).length ((proof (l.take k) i bb).map Value.string) rfl (HO3.out.alloc _) ⟨w3.heap.size, 0, none⟩ 1 1 [.string (tree (l.drop k))] rfl rfl (one_newS w3 _ _) (one_cellS _) (by unfold maxLen; omega) (by omega) (by have := HB3.out.size; simp; omega) ?_; intro v' w4 hown4 hgrow; have HB4 := hideT (app_one HB3.out HB3.out.size (Nat.le_refl _) HO3.out hgrow); have HO4 := hideT (OwnS.snoc hown4); clear hown4 hgrow) | (go_simp; go_at_call 91; (with_reducible refine (HPC.out _ ?_).mono ?_); (· exact (Below.refl _ _).drew); rintro e w2 ⟨v, rfl, ho2, hb2⟩; have HB2 := hideT (show Below w.heap.size w w2 from ⟨hb2.os, hb2.tape, hb2.output, hb2.size, hb2.block⟩); have HO2 := hideT (show OwnS w2 w.heap.size v (proof (l.take k) i bb) from ho2); clear hb2 ho2) | (go_simp; go_at_call 78; (with_reducible refine (TR.out w2 HB2.out).mono ?_); rintro e w3 ⟨rfl, hb3⟩; have HB3 := hideT (HB2.out.trans (hb3.mono HB2.out.size)); have HO3 := hideT (HO2.out.below hb3); clear hb3))
        all_goals (try go_wp2_with fail)
        all_goals go_ret
        all_goals exact ⟨_, rfl, by rw [HE.out]; exact HO4.out, HB4.out⟩
      · have HE := hideT (HPR.out hik)
        have hn3 : (proof (l.drop k) (i - k) false).length + 1 ≤ 66 := by have := HLE.out (l.drop k) (i - k) false (by rw [List.length_drop]; omega); rw [List.length_drop] at this; omega
        have HPC := hideT (PR.out hik)
        go_enter Tryd.func91, Tryd.ntmps91
        go_wp2_with fail
        refine HH.out.mono ?_
        rintro e w1 ⟨rfl, hw⟩
        subst w1
        go_wp2_with fail
        go_region_law (first | (refine step_append_own rfl (.tmp 41) (.tmp 46) 33 rfl w.heap.size 9 i0 (.string ⟨#[]⟩) 1 16 Tryd.underlying33 hif hz0 hz1 hz2 rfl (by decide) v (proof (l.drop k) (i - k) false).length ((proof (l.drop k) (i - k) false).map Value.string) rfl (HO3.out.alloc _) ⟨w3.heap.size, 0, none⟩ 1 1 [.string (tree (l.take k))] rfl rfl (one_newS w3 _ _) (one_cellS _) (by unfold maxLen; omega) (by omega) (by have := HB3.out.size; simp; omega) ?_; intro v' w4 hown4 hgrow; have HB4 := hideT (app_one HB3.out HB3.out.size (Nat.le_refl _) HO3.out hgrow); have HO4 := hideT (OwnS.snoc hown4); clear hown4 hgrow) | (go_simp; go_at_call 91; (with_reducible refine (HPC.out _ ?_).mono ?_); (· exact (Below.refl _ _).drew); rintro e w2 ⟨v, rfl, ho2, hb2⟩; have HB2 := hideT (show Below w.heap.size w w2 from ⟨hb2.os, hb2.tape, hb2.output, hb2.size, hb2.block⟩); have HO2 := hideT (show OwnS w2 w.heap.size v (proof (l.drop k) (i - k) false) from ho2); clear hb2 ho2) | (go_simp; go_at_call 78; (with_reducible refine (TL.out w2 HB2.out).mono ?_); rintro e w3 ⟨rfl, hb3⟩; have HB3 := hideT (HB2.out.trans (hb3.mono HB2.out.size)); have HO3 := hideT (HO2.out.below hb3); clear hb3))
        all_goals (try go_wp2_with fail)
        all_goals go_ret
        all_goals exact ⟨_, rfl, by rw [HE.out]; exact HO4.out, HB4.out⟩
end Go.Proofs.YteiicafjjcnioaaDoor.Tr
