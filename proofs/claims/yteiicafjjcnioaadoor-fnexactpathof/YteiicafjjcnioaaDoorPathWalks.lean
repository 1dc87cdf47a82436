/- The walk of impl.pathIn: the path of one of right entries, in memory of its own. -/
import Derived.Test.YteiicafjjcnioaaDoorTreeWalks
import Derived.Test.YteiicafjjcnioaaDoorPathPlain
import Derived.Test.YteiicafjjcnioaaDoorStrOwn
namespace Go.Proofs.YteiicafjjcnioaaDoor.Tr
open Go.RowKit
open Go.Proofs.YteiicafjjcnioaaDoor.St
open Go.Proofs.YteiicafjjcnioaaDoor.Sh (Vars)

set_option maxRecDepth 100000 in
set_option maxHeartbeats 4000000 in
theorem path_impl : ∀ (m n i : Nat) (l : List ByteArray) (a : Option Addr) (cap B : Nat) (w : World), n ≤ m → l.length = n → 1 ≤ n → i < n → n ≤ cap → n ≤ 64 → (∀ j (h : j < l.length), l[j].size ≤ 100) → Strs w B a l → B ≤ w.heap.size → Vars w →
    Calls Tryd.prog 76 #[.slice a n cap, .int .i64 i] w fun e w' => ∃ v, e = .returned v ∧ OwnS w' w.heap.size v (path l i) ∧ Below w.heap.size w w' := by
  intro m
  induction m with
  | zero =>
    intro n i l a cap B w hm hln h1
    omega
  | succ m ih =>
    intro n i l a cap B w hm hln h1 hi hcap h64 hr hs hB hV
    obtain ⟨b, off, rfl, hb, hc⟩ := hs.some (by omega)
    obtain ⟨i0, hif, hz0, hz1, hz2⟩ := info_parts Tryd.infoS9
    have HV := hideT hV
    have hv2 := hV.two
    clear hV hs
    by_cases hn1 : n = 1
    · have HP := hideT (path_one l i (by omega))
      subst hn1
      clear hc hr ih
      go_enter Tryd.func76, Tryd.ntmps76
      go_wp2_with fail
      go_ret
      exact ⟨_, rfl, by rw [HP.out]; exact OwnS.nil _ _, Below.refl _ _⟩
    · have hp := half_pos n
      have hl := half_lt n (by omega)
      have HPL := hideT (path_left l i (by omega))
      have HPR := hideT (path_right l i (by omega))
      have HLE := hideT (path_length m)
      obtain ⟨k, hk⟩ : ∃ k, k = half n := ⟨_, rfl⟩
      have HCut := hideT (cut_any b off n cap w (by omega) (by omega) hcap)
      rw [hln, ← hk] at HPL HPR
      rw [← hk] at hp hl HCut
      have TL : Hid (∀ W : World, Below w.heap.size w W → Calls Tryd.prog 75 #[.slice (some ⟨b, off, none⟩) k k] W fun e w' => e = .returned (.string (tree (l.take k))) ∧ Below W.heap.size W w') := fun W hW =>
        tree_impl k k (l.take k) (some ⟨b, off, none⟩) k B W (Nat.le_refl _) (by rw [List.length_take]; omega) (by omega) (by omega) (fun j hj => by rw [List.getElem_take]; exact hr j _) ((Strs.take hb hc).after hW hB) (Nat.le_trans hB hW.size) (HV.out.below hW hv2)
      have TR : Hid (∀ W : World, Below w.heap.size w W → Calls Tryd.prog 75 #[.slice (some ⟨b, off + k, none⟩) (n - k) (n - k)] W fun e w' => e = .returned (.string (tree (l.drop k))) ∧ Below W.heap.size W w') := fun W hW =>
        tree_impl (n - k) (n - k) (l.drop k) (some ⟨b, off + k, none⟩) (n - k) B W (Nat.le_refl _) (by rw [List.length_drop]; omega) (by omega) (by omega) (fun j hj => by rw [List.getElem_drop]; exact hr _ _) ((Strs.drop hb hc).after hW hB) (Nat.le_trans hB hW.size) (HV.out.below hW hv2)
      have PL : Hid (i < k → ∀ W : World, Below w.heap.size w W → Calls Tryd.prog 76 #[.slice (some ⟨b, off, none⟩) k k, .int .i64 i] W fun e w' => ∃ v, e = .returned v ∧ OwnS w' W.heap.size v (path (l.take k) i) ∧ Below W.heap.size W w') := fun hik W hW =>
        ih k i (l.take k) (some ⟨b, off, none⟩) k B W (by omega) (by rw [List.length_take]; omega) (by omega) hik (by omega) (by omega) (fun j hj => by rw [List.getElem_take]; exact hr j _) ((Strs.take hb hc).after hW hB) (Nat.le_trans hB hW.size) (HV.out.below hW hv2)
      have PR : Hid (¬ i < k → ∀ W : World, Below w.heap.size w W → Calls Tryd.prog 76 #[.slice (some ⟨b, off + k, none⟩) (n - k) (n - k), .int .i64 ((i : Int) - k)] W fun e w' => ∃ v, e = .returned v ∧ OwnS w' W.heap.size v (path (l.drop k) (i - k)) ∧ Below W.heap.size W w') := fun hik W hW => by
        have := ih (n - k) (i - k) (l.drop k) (some ⟨b, off + k, none⟩) (n - k) B W (by omega) (by rw [List.length_drop]; omega) (by omega) (by omega) (by omega) (by omega) (fun j hj => by rw [List.getElem_drop]; exact hr _ _) ((Strs.drop hb hc).after hW hB) (Nat.le_trans hB hW.size) (HV.out.below hW hv2)
        rw [show ((i - k : Nat) : Int) = (i : Int) - k by omega] at this
        exact this
      have i1 : ¬ (n : Int) = 1 := by omega
      clear hc hr ih hk
      by_cases hik : i < k
      · have HE := hideT (HPL.out hik)
        have HLn := hideT (HLE.out (l.take k) i (by rw [List.length_take]; omega))
        go_enter Tryd.func76, Tryd.ntmps76
        go_wp2_with fail
        refine HCut.out.mono ?_
        rintro e w1 ⟨rfl, hb1, hh1⟩
        have HB1 := hideT hb1
        have HZ1 := hideT (show w1.heap.size = w.heap.size by rw [hh1])
        clear hb1 hh1
        go_wp2_with fail
        refine (PL.out hik w1 HB1.out).mono ?_
        rintro e w2 ⟨v, rfl, ho2, hb2⟩
        have HB2 := hideT (HB1.out.trans (hb2.mono HB1.out.size))
        have HO2 := hideT ho2
        clear hb2 ho2
        go_wp2_with fail
        refine (TR.out w2 HB2.out).mono ?_
        rintro e w3 ⟨rfl, hb3⟩
        have HB3 := hideT (HB2.out.trans (hb3.mono HB2.out.size))
        have HO3 := hideT (HO2.out.below hb3)
        clear hb3
        have hn3 : (path (l.take k) i).length + 1 ≤ 65 := by have := HLn.out; rw [List.length_take] at this; omega
        go_wp2_with (at_builtin; refine wpList_append_own _ rfl (.tmp 23) (.tmp 26) 33 rfl w1.heap.size 9 i0 (.string ⟨#[]⟩) 1 16 Tryd.underlying33 hif hz0 hz1 hz2 rfl (by decide) v (path (l.take k) i).length ((path (l.take k) i).map Value.string) rfl (HO3.out.alloc _) ⟨w3.heap.size, 0, none⟩ 1 1 [.string (tree (l.drop k))] rfl rfl (one_newS w3 _ _) (one_cellS _) ?c3 ?c4 ?c5 ?_; (case c3 => unfold maxLen; omega); (case c4 => omega); (case c5 => have := HB3.out.size; have := HZ1.out; simp; omega); intro v' w4 hown4 hgrow _; have HB4 := hideT (app_one HB3.out HB3.out.size (Nat.le_of_eq HZ1.out.symm) HO3.out hgrow); have HO4 := hideT (OwnS.snoc hown4); clear hown4 hgrow)
        go_ret
        exact ⟨_, rfl, by rw [HE.out, ← HZ1.out]; exact HO4.out, HB4.out⟩
      · have HE := hideT (HPR.out hik)
        have HLn := hideT (HLE.out (l.drop k) (i - k) (by rw [List.length_drop]; omega))
        go_enter Tryd.func76, Tryd.ntmps76
        go_wp2_with fail
        refine HCut.out.mono ?_
        rintro e w1 ⟨rfl, hb1, hh1⟩
        have HB1 := hideT hb1
        have HZ1 := hideT (show w1.heap.size = w.heap.size by rw [hh1])
        clear hb1 hh1
        go_wp2_with fail
        refine (PR.out hik w1 HB1.out).mono ?_
        rintro e w2 ⟨v, rfl, ho2, hb2⟩
        have HB2 := hideT (HB1.out.trans (hb2.mono HB1.out.size))
        have HO2 := hideT ho2
        clear hb2 ho2
        go_wp2_with fail
        refine (TL.out w2 HB2.out).mono ?_
        rintro e w3 ⟨rfl, hb3⟩
        have HB3 := hideT (HB2.out.trans (hb3.mono HB2.out.size))
        have HO3 := hideT (HO2.out.below hb3)
        clear hb3
        have hn3 : (path (l.drop k) (i - k)).length + 1 ≤ 65 := by have := HLn.out; rw [List.length_drop] at this; omega
        go_wp2_with (at_builtin; refine wpList_append_own _ rfl (.tmp 32) (.tmp 35) 33 rfl w1.heap.size 9 i0 (.string ⟨#[]⟩) 1 16 Tryd.underlying33 hif hz0 hz1 hz2 rfl (by decide) v (path (l.drop k) (i - k)).length ((path (l.drop k) (i - k)).map Value.string) rfl (HO3.out.alloc _) ⟨w3.heap.size, 0, none⟩ 1 1 [.string (tree (l.take k))] rfl rfl (one_newS w3 _ _) (one_cellS _) ?c3 ?c4 ?c5 ?_; (case c3 => unfold maxLen; omega); (case c4 => omega); (case c5 => have := HB3.out.size; have := HZ1.out; simp; omega); intro v' w4 hown4 hgrow _; have HB4 := hideT (app_one HB3.out HB3.out.size (Nat.le_of_eq HZ1.out.symm) HO3.out hgrow); have HO4 := hideT (OwnS.snoc hown4); clear hown4 hgrow)
        go_ret
        exact ⟨_, rfl, by rw [HE.out, ← HZ1.out]; exact HO4.out, HB4.out⟩
end Go.Proofs.YteiicafjjcnioaaDoor.Tr
