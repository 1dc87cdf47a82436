/- The walk of impl.proofIn: the proof of the first of right entries, in memory of its own. -/
import Derived.Test.YteiicafjjcnioaaDoorTreeWalks
import Derived.Test.YteiicafjjcnioaaDoorProofPlain
import Derived.Test.YteiicafjjcnioaaDoorStrOwn

namespace Go.Proofs.YteiicafjjcnioaaDoor.Tr
open Go.RowKit
open Go.Proofs.YteiicafjjcnioaaDoor.St
open Go.Proofs.YteiicafjjcnioaaDoor.Sh (Vars)

theorem own_one (W : World) (base : Nat) (s : ByteArray) (h : base ≤ W.heap.size) : OwnS (W.alloc (.cells #[.string s] 9)) base (.slice (some ⟨W.heap.size, 0, none⟩) 1 1) [s] :=
  ⟨rfl, Or.inr ⟨W.heap.size, 1, #[.string s], rfl, h, heap_alloc_last W _, Nat.le_refl _, by decide, rfl, rfl⟩⟩

set_option maxRecDepth 100000 in
set_option maxHeartbeats 8000000 in
theorem proof_impl : ∀ (m n i : Nat) (bb : Bool) (l : List ByteArray) (a : Option Addr) (cap B : Nat) (w : World), n ≤ m → l.length = n → 1 ≤ i → i ≤ n → n ≤ cap → n ≤ 64 → (∀ j (h : j < l.length), l[j].size ≤ 100) → Strs w B a l → B ≤ w.heap.size → Vars w →
    Calls Tryd.prog 90 #[.slice a n cap, .int .i64 i, .bool bb] w fun e w' => ∃ v, e = .returned v ∧ OwnS w' w.heap.size v (proof l i bb) ∧ Below w.heap.size w w' := by
  intro m
  induction m with
  | zero =>
    intro n i bb l a cap B w hm hln h1
    omega
  | succ m ih =>
    intro n i bb l a cap B w hm hln h1 hi hcap h64 hr hs hB hV
    obtain ⟨b, off, rfl, hb, hc⟩ := hs.some (by omega)
    obtain ⟨i0, hif, hz0, hz1, hz2⟩ := info_parts Tryd.infoS9
    have HV := hideT hV
    have hv2 := hV.two
    clear hV
    by_cases hn1 : i = n
    · subst hn1
      cases bb with
      | true =>
        have HP := hideT (proof_whole l i hln)
        clear hc hr ih hs
        go_enter Tryd.func90, Tryd.ntmps90
        go_wp2_with fail
        go_ret
        exact ⟨_, rfl, by rw [HP.out]; exact OwnS.nil _ _, Below.refl _ _⟩
      | false =>
        have HP := hideT (proof_part l i hln)
        have HT := hideT (tree_impl i i l (some ⟨b, off, none⟩) cap B w (Nat.le_refl _) hln hcap h64 hr hs hB HV.out)
        clear hc hr ih hs
        go_enter Tryd.func90, Tryd.ntmps90
        go_wp2_with fail
        refine HT.out.mono ?_
        rintro e w1 ⟨rfl, hb1⟩
        have HB1 := hideT hb1
        clear hb1
        go_wp2_with fail
        go_ret
        exact ⟨_, rfl, by rw [HP.out]; exact own_one _ _ _ HB1.out.size, HB1.out.alloc HB1.out.size _⟩
    · have hp := half_pos n
      have hl := half_lt n (by omega)
      have HPL := hideT (proof_left l i bb (by omega) (by omega))
      have HPR := hideT (proof_right l i bb (by omega) (by omega))
      have HLE := hideT (proof_length m)
      clear hs
      obtain ⟨k, hk⟩ : ∃ k, k = half n := ⟨_, rfl⟩
      have HCut := hideT (cut_any b off n cap w (by omega) (by omega) hcap)
      rw [hln, ← hk] at HPL HPR
      rw [← hk] at hp hl HCut
      have TL : Hid (∀ W : World, Below w.heap.size w W → Calls Tryd.prog 75 #[.slice (some ⟨b, off, none⟩) k k] W fun e w' => e = .returned (.string (tree (l.take k))) ∧ Below W.heap.size W w') := fun W hW =>
        tree_impl k k (l.take k) (some ⟨b, off, none⟩) k B W (Nat.le_refl _) (by rw [List.length_take]; omega) (by omega) (by omega) (fun j hj => by rw [List.getElem_take]; exact hr j _) ((Strs.take hb hc).after hW hB) (Nat.le_trans hB hW.size) (HV.out.below hW hv2)
      have TR : Hid (∀ W : World, Below w.heap.size w W → Calls Tryd.prog 75 #[.slice (some ⟨b, off + k, none⟩) (n - k) (n - k)] W fun e w' => e = .returned (.string (tree (l.drop k))) ∧ Below W.heap.size W w') := fun W hW =>
        tree_impl (n - k) (n - k) (l.drop k) (some ⟨b, off + k, none⟩) (n - k) B W (Nat.le_refl _) (by rw [List.length_drop]; omega) (by omega) (by omega) (fun j hj => by rw [List.getElem_drop]; exact hr _ _) ((Strs.drop hb hc).after hW hB) (Nat.le_trans hB hW.size) (HV.out.below hW hv2)
      have PL : Hid (i ≤ k → ∀ W : World, Below w.heap.size w W → Calls Tryd.prog 90 #[.slice (some ⟨b, off, none⟩) k k, .int .i64 i, .bool bb] W fun e w' => ∃ v, e = .returned v ∧ OwnS w' W.heap.size v (proof (l.take k) i bb) ∧ Below W.heap.size W w') := fun hik W hW =>
        ih k i bb (l.take k) (some ⟨b, off, none⟩) k B W (by omega) (by rw [List.length_take]; omega) h1 hik (by omega) (by omega) (fun j hj => by rw [List.getElem_take]; exact hr j _) ((Strs.take hb hc).after hW hB) (Nat.le_trans hB hW.size) (HV.out.below hW hv2)
      have PR : Hid (¬ i ≤ k → ∀ W : World, Below w.heap.size w W → Calls Tryd.prog 90 #[.slice (some ⟨b, off + k, none⟩) (n - k) (n - k), .int .i64 ((i : Int) - k), .bool false] W fun e w' => ∃ v, e = .returned v ∧ OwnS w' W.heap.size v (proof (l.drop k) (i - k) false) ∧ Below W.heap.size W w') := fun hik W hW => by
        have := ih (n - k) (i - k) false (l.drop k) (some ⟨b, off + k, none⟩) (n - k) B W (by omega) (by rw [List.length_drop]; omega) (by omega) (by omega) (by omega) (by omega) (fun j hj => by rw [List.getElem_drop]; exact hr _ _) ((Strs.drop hb hc).after hW hB) (Nat.le_trans hB hW.size) (HV.out.below hW hv2)
        rw [show ((i - k : Nat) : Int) = (i : Int) - k by omega] at this
        exact this
      have i1 : ¬ (i : Int) = n := by omega
      clear hc hr ih hk
      by_cases hik : i ≤ k
      · have HE := hideT (HPL.out hik)
        have hn3 : (proof (l.take k) i bb).length + 1 ≤ 66 := by have := HLE.out (l.take k) i bb (by rw [List.length_take]; omega); rw [List.length_take] at this; omega
        go_enter Tryd.func90, Tryd.ntmps90
        go_wp2_with fail
        refine HCut.out.mono ?_
        rintro e w1 ⟨rfl, hb1, hh1⟩
        have HB1 := hideT hb1
        have HZ1 := hideT (show w1.heap.size = w.heap.size by rw [hh1])
        clear hb1 hh1
        go_wp2_with fail
        refine (PL.out hik w1 HB1.out).mono ?_
        rintro e w2 ⟨v, rfl, ho2, hb2⟩
        have HB2 := hideT (HB1.out.trans (hb2.mono HB1.out.size))
        have HO2 := hideT ho2
        clear hb2 ho2
        go_wp2_with fail
        refine (TR.out w2 HB2.out).mono ?_
        rintro e w3 ⟨rfl, hb3⟩
        have HB3 := hideT (HB2.out.trans (hb3.mono HB2.out.size))
        have HO3 := hideT (HO2.out.below hb3)
        clear hb3
        go_wp2_with (at_builtin; refine wpList_append_own _ rfl (.tmp 31) (.tmp 34) 33 rfl w1.heap.size 9 i0 (.string ⟨#[]⟩) 1 16 Tryd.underlying33 hif hz0 hz1 hz2 rfl (by decide) v (proof (l.take k) i bb).length ((proof (l.take k) i bb).map Value.string) rfl (HO3.out.alloc _) ⟨w3.heap.size, 0, none⟩ 1 1 [.string (tree (l.drop k))] rfl rfl (one_newS w3 _ _) (one_cellS _) ?c3 ?c4 ?c5 ?_; (case c3 => unfold maxLen; omega); (case c4 => omega); (case c5 => have := HB3.out.size; have := HZ1.out; simp; omega); intro v' w4 hown4 hgrow _; have HB4 := hideT (app_one HB3.out HB3.out.size (Nat.le_of_eq HZ1.out.symm) HO3.out hgrow); have HO4 := hideT (OwnS.snoc hown4); clear hown4 hgrow)
        go_ret
        exact ⟨_, rfl, by rw [HE.out, ← HZ1.out]; exact HO4.out, HB4.out⟩
      · have HE := hideT (HPR.out hik)
        have hn3 : (proof (l.drop k) (i - k) false).length + 1 ≤ 66 := by have := HLE.out (l.drop k) (i - k) false (by rw [List.length_drop]; omega); rw [List.length_drop] at this; omega
        go_enter Tryd.func90, Tryd.ntmps90
        go_wp2_with fail
        refine HCut.out.mono ?_
        rintro e w1 ⟨rfl, hb1, hh1⟩
        have HB1 := hideT hb1
        have HZ1 := hideT (show w1.heap.size = w.heap.size by rw [hh1])
        clear hb1 hh1
        go_wp2_with fail
        refine (PR.out hik w1 HB1.out).mono ?_
        rintro e w2 ⟨v, rfl, ho2, hb2⟩
        have HB2 := hideT (HB1.out.trans (hb2.mono HB1.out.size))
        have HO2 := hideT ho2
        clear hb2 ho2
        go_wp2_with fail
        refine (TL.out w2 HB2.out).mono ?_
        rintro e w3 ⟨rfl, hb3⟩
        have HB3 := hideT (HB2.out.trans (hb3.mono HB2.out.size))
        have HO3 := hideT (HO2.out.below hb3)
        clear hb3
        go_wp2_with (at_builtin; refine wpList_append_own _ rfl (.tmp 40) (.tmp 43) 33 rfl w1.heap.size 9 i0 (.string ⟨#[]⟩) 1 16 Tryd.underlying33 hif hz0 hz1 hz2 rfl (by decide) v (proof (l.drop k) (i - k) false).length ((proof (l.drop k) (i - k) false).map Value.string) rfl (HO3.out.alloc _) ⟨w3.heap.size, 0, none⟩ 1 1 [.string (tree (l.take k))] rfl rfl (one_newS w3 _ _) (one_cellS _) ?c3 ?c4 ?c5 ?_; (case c3 => unfold maxLen; omega); (case c4 => omega); (case c5 => have := HB3.out.size; have := HZ1.out; simp; omega); intro v' w4 hown4 hgrow _; have HB4 := hideT (app_one HB3.out HB3.out.size (Nat.le_of_eq HZ1.out.symm) HO3.out hgrow); have HO4 := hideT (OwnS.snoc hown4); clear hown4 hgrow)
        go_ret
        exact ⟨_, rfl, by rw [HE.out, ← HZ1.out]; exact HO4.out, HB4.out⟩
end Go.Proofs.YteiicafjjcnioaaDoor.Tr
