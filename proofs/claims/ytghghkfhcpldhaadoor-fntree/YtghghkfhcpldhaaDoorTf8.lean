/- Texts put together: PathPlain, PathWalks, TreeSpec, PathSpec. -/
import Derived.Test.YtghghkfhcpldhaaDoorTf7
import Derived.Test.YtghghkfhcpldhaaDoorStrOwn
import Derived.Deep.RegionWith
import Derived.BigRegion
import Derived.Test.YtghghkfhcpldhaaDoorShaAppend
/- Plain mathematics of paths. -/
namespace Go.Proofs.YtghghkfhcpldhaaDoor.Tr

/-- the path of one of right entries -/
def path (l : List ByteArray) (i : Nat) : List ByteArray :=
  if _h : l.length ≤ 1 then []
  else if i < half l.length then path (l.take (half l.length)) i ++ [tree (l.drop (half l.length))]
  else path (l.drop (half l.length)) (i - half l.length) ++ [tree (l.take (half l.length))]
termination_by l.length
decreasing_by
  · have := half_lt l.length (by omega)
    simp
    omega
  · have := half_pos l.length
    simp
    omega
theorem path_one (l : List ByteArray) (i : Nat) (h : l.length ≤ 1) : path l i = [] := by rw [path, dif_pos h]
theorem path_left (l : List ByteArray) (i : Nat) (h : 2 ≤ l.length) (hi : i < half l.length) : path l i = path (l.take (half l.length)) i ++ [tree (l.drop (half l.length))] := by
  rw [path, dif_neg (by omega), if_pos hi]
theorem path_right (l : List ByteArray) (i : Nat) (h : 2 ≤ l.length) (hi : ¬ i < half l.length) : path l i = path (l.drop (half l.length)) (i - half l.length) ++ [tree (l.take (half l.length))] := by
  rw [path, dif_neg (by omega), if_neg hi]
theorem path_length : ∀ (m : Nat) (l : List ByteArray) (i : Nat), l.length ≤ m → (path l i).length ≤ l.length
  | 0, l, i, h => by
    rw [path_one l i (by omega)]
    simp
  | m + 1, l, i, h => by
    by_cases h1 : l.length ≤ 1
    · rw [path_one l i h1]
      simp
    · have h2 := half_lt l.length (by omega)
      have h3 := half_pos l.length
      by_cases hi : i < half l.length
      · rw [path_left l i (by omega) hi]
        have := path_length m (l.take (half l.length)) i (by simp; omega)
        simp at this ⊢
        omega
      · rw [path_right l i (by omega) hi]
        have := path_length m (l.drop (half l.length)) (i - half l.length) (by simp; omega)
        simp at this ⊢
        omega
def pathR (l : List ByteArray) (i : Int) : List ByteArray := if right l = true ∧ 0 ≤ i ∧ i < l.length then path l i.toNat else []
end Go.Proofs.YtghghkfhcpldhaaDoor.Tr

/- The walk of impl.pathIn: the path of one of right entries, in memory of its own. -/
namespace Go.Proofs.YtghghkfhcpldhaaDoor.Tr
open Go.RowKit
open Go.Proofs.YtghghkfhcpldhaaDoor.St
open Go.Proofs.YtghghkfhcpldhaaDoor.Sh (Vars)

set_option maxRecDepth 100000 in
set_option maxHeartbeats 4000000 in
theorem path_impl : ∀ (m n i : Nat) (l : List ByteArray) (a : Option Addr) (cap B : Nat) (w : World), n ≤ m → l.length = n → 1 ≤ n → i < n → n ≤ cap → n ≤ 64 → (∀ j (h : j < l.length), l[j].size ≤ 100) → Strs w B a l → B ≤ w.heap.size → Vars w →
    Calls Tryd.prog 46 #[.slice a n cap, .int .i64 i] w fun e w' => ∃ v, e = .returned v ∧ OwnS w' w.heap.size v (path l i) ∧ Below w.heap.size w w' := by
  intro m
  induction m with
  | zero =>
    intro n i l a cap B w hm hln h1
    omega
  | succ m ih =>
    intro n i l a cap B w hm hln h1 hi hcap h64 hr hs hB hV
    obtain ⟨b, off, rfl, hb, hc⟩ := hs.some (by omega)
    obtain ⟨i0, hif, hz0, hz1, hz2⟩ := info_parts Tryd.infoS9
    have HV := hideT hV
    have hv2 := hV.two
    clear hV hs
    by_cases hn1 : n = 1
    · have HP := hideT (path_one l i (by omega))
      subst hn1
      clear hc hr ih
      go_enter Tryd.func46, Tryd.ntmps46
      go_wp2_with fail
      go_ret
      exact ⟨_, rfl, by rw [HP.out]; exact OwnS.nil _ _, Below.refl _ _⟩
    · have hp := half_pos n
      have hl := half_lt n (by omega)
      have HPL := hideT (path_left l i (by omega))
      have HPR := hideT (path_right l i (by omega))
      have HLE := hideT (path_length m)
      obtain ⟨k, hk⟩ : ∃ k, k = half n := ⟨_, rfl⟩
      have HCut := hideT (cut_any b off n cap w (by omega) (by omega) hcap)
      rw [hln, ← hk] at HPL HPR
      rw [← hk] at hp hl HCut
      have TL : Hid (∀ W : World, Below w.heap.size w W → Calls Tryd.prog 45 #[.slice (some ⟨b, off, none⟩) k k] W fun e w' => e = .returned (.string (tree (l.take k))) ∧ Below W.heap.size W w') := fun W hW =>
        tree_impl k k (l.take k) (some ⟨b, off, none⟩) k B W (Nat.le_refl _) (by rw [List.length_take]; omega) (by omega) (by omega) (fun j hj => by rw [List.getElem_take]; exact hr j _) ((Strs.take hb hc).after hW hB) (Nat.le_trans hB hW.size) (HV.out.below hW hv2)
      have TR : Hid (∀ W : World, Below w.heap.size w W → Calls Tryd.prog 45 #[.slice (some ⟨b, off + k, none⟩) (n - k) (n - k)] W fun e w' => e = .returned (.string (tree (l.drop k))) ∧ Below W.heap.size W w') := fun W hW =>
        tree_impl (n - k) (n - k) (l.drop k) (some ⟨b, off + k, none⟩) (n - k) B W (Nat.le_refl _) (by rw [List.length_drop]; omega) (by omega) (by omega) (fun j hj => by rw [List.getElem_drop]; exact hr _ _) ((Strs.drop hb hc).after hW hB) (Nat.le_trans hB hW.size) (HV.out.below hW hv2)
      have PL : Hid (i < k → ∀ W : World, Below w.heap.size w W → Calls Tryd.prog 46 #[.slice (some ⟨b, off, none⟩) k k, .int .i64 i] W fun e w' => ∃ v, e = .returned v ∧ OwnS w' W.heap.size v (path (l.take k) i) ∧ Below W.heap.size W w') := fun hik W hW =>
        ih k i (l.take k) (some ⟨b, off, none⟩) k B W (by omega) (by rw [List.length_take]; omega) (by omega) hik (by omega) (by omega) (fun j hj => by rw [List.getElem_take]; exact hr j _) ((Strs.take hb hc).after hW hB) (Nat.le_trans hB hW.size) (HV.out.below hW hv2)
      have PR : Hid (¬ i < k → ∀ W : World, Below w.heap.size w W → Calls Tryd.prog 46 #[.slice (some ⟨b, off + k, none⟩) (n - k) (n - k), .int .i64 ((i : Int) - k)] W fun e w' => ∃ v, e = .returned v ∧ OwnS w' W.heap.size v (path (l.drop k) (i - k)) ∧ Below W.heap.size W w') := fun hik W hW => by
        have := ih (n - k) (i - k) (l.drop k) (some ⟨b, off + k, none⟩) (n - k) B W (by omega) (by rw [List.length_drop]; omega) (by omega) (by omega) (by omega) (by omega) (fun j hj => by rw [List.getElem_drop]; exact hr _ _) ((Strs.drop hb hc).after hW hB) (Nat.le_trans hB hW.size) (HV.out.below hW hv2)
        rw [show ((i - k : Nat) : Int) = (i : Int) - k by omega] at this
        exact this
      have i1 : ¬ (n : Int) = 1 := by omega
      clear hc hr ih hk
      by_cases hik : i < k
      · have HE := hideT (HPL.out hik)
        have HLn := hideT (HLE.out (l.take k) i (by rw [List.length_take]; omega))
        go_enter Tryd.func46, Tryd.ntmps46
        go_wp2_with fail
        refine HCut.out.mono ?_
        rintro e w1 ⟨rfl, hb1, hh1⟩
        have HB1 := hideT hb1
        have HZ1 := hideT (show w1.heap.size = w.heap.size by rw [hh1])
        clear hb1 hh1
        go_wp2_with fail
        refine (PL.out hik w1 HB1.out).mono ?_
        rintro e w2 ⟨v, rfl, ho2, hb2⟩
        have HB2 := hideT (HB1.out.trans (hb2.mono HB1.out.size))
        have HO2 := hideT ho2
        clear hb2 ho2
        go_wp2_with fail
        refine (TR.out w2 HB2.out).mono ?_
        rintro e w3 ⟨rfl, hb3⟩
        have HB3 := hideT (HB2.out.trans (hb3.mono HB2.out.size))
        have HO3 := hideT (HO2.out.below hb3)
        clear hb3
        have hn3 : (path (l.take k) i).length + 1 ≤ 65 := by have := HLn.out; rw [List.length_take] at this; omega
        go_wp2_with (at_builtin; refine wpList_append_own _ rfl (.tmp 23) (.tmp 26) 23 rfl w1.heap.size 9 i0 (.string ⟨#[]⟩) 1 16 Tryd.underlying23 hif hz0 hz1 hz2 rfl (by decide) v (path (l.take k) i).length ((path (l.take k) i).map Value.string) rfl (HO3.out.alloc _) ⟨w3.heap.size, 0, none⟩ 1 1 [.string (tree (l.drop k))] rfl rfl (one_newS w3 _ _) (one_cellS _) ?c3 ?c4 ?c5 ?_; (case c3 => unfold maxLen; omega); (case c4 => omega); (case c5 => have := HB3.out.size; have := HZ1.out; simp; omega); intro v' w4 hown4 hgrow _; have HB4 := hideT (app_one HB3.out HB3.out.size (Nat.le_of_eq HZ1.out.symm) HO3.out hgrow); have HO4 := hideT (OwnS.snoc hown4); clear hown4 hgrow)
        go_ret
        exact ⟨_, rfl, by rw [HE.out, ← HZ1.out]; exact HO4.out, HB4.out⟩
      · have HE := hideT (HPR.out hik)
        have HLn := hideT (HLE.out (l.drop k) (i - k) (by rw [List.length_drop]; omega))
        go_enter Tryd.func46, Tryd.ntmps46
        go_wp2_with fail
        refine HCut.out.mono ?_
        rintro e w1 ⟨rfl, hb1, hh1⟩
        have HB1 := hideT hb1
        have HZ1 := hideT (show w1.heap.size = w.heap.size by rw [hh1])
        clear hb1 hh1
        go_wp2_with fail
        refine (PR.out hik w1 HB1.out).mono ?_
        rintro e w2 ⟨v, rfl, ho2, hb2⟩
        have HB2 := hideT (HB1.out.trans (hb2.mono HB1.out.size))
        have HO2 := hideT ho2
        clear hb2 ho2
        go_wp2_with fail
        refine (TL.out w2 HB2.out).mono ?_
        rintro e w3 ⟨rfl, hb3⟩
        have HB3 := hideT (HB2.out.trans (hb3.mono HB2.out.size))
        have HO3 := hideT (HO2.out.below hb3)
        clear hb3
        have hn3 : (path (l.drop k) (i - k)).length + 1 ≤ 65 := by have := HLn.out; rw [List.length_drop] at this; omega
        go_wp2_with (at_builtin; refine wpList_append_own _ rfl (.tmp 32) (.tmp 35) 23 rfl w1.heap.size 9 i0 (.string ⟨#[]⟩) 1 16 Tryd.underlying23 hif hz0 hz1 hz2 rfl (by decide) v (path (l.drop k) (i - k)).length ((path (l.drop k) (i - k)).map Value.string) rfl (HO3.out.alloc _) ⟨w3.heap.size, 0, none⟩ 1 1 [.string (tree (l.take k))] rfl rfl (one_newS w3 _ _) (one_cellS _) ?c3 ?c4 ?c5 ?_; (case c3 => unfold maxLen; omega); (case c4 => omega); (case c5 => have := HB3.out.size; have := HZ1.out; simp; omega); intro v' w4 hown4 hgrow _; have HB4 := hideT (app_one HB3.out HB3.out.size (Nat.le_of_eq HZ1.out.symm) HO3.out hgrow); have HO4 := hideT (OwnS.snoc hown4); clear hown4 hgrow)
        go_ret
        exact ⟨_, rfl, by rw [HE.out, ← HZ1.out]; exact HO4.out, HB4.out⟩
end Go.Proofs.YtghghkfhcpldhaaDoor.Tr

/- The walk of spec.l03Tree: of right entries it answers their tree, and writes nothing that was there. -/
namespace Go.Proofs.YtghghkfhcpldhaaDoor.Tr
open Go.RowKit
open Go.Proofs.YtghghkfhcpldhaaDoor.St
open Go.Proofs.YtghghkfhcpldhaaDoor.Sh (leafV nodeV all_any l03Leaf_any l03Node_any)

set_option maxRecDepth 100000 in
set_option maxHeartbeats 4000000 in
theorem tree_spec : ∀ (m n : Nat) (l : List ByteArray) (a : Option Addr) (cap B : Nat) (w : World), n ≤ m → l.length = n → n ≤ cap → n ≤ 64 → (∀ j (h : j < l.length), l[j].size ≤ 100) → Strs w B a l → B ≤ w.heap.size →
    Calls Tryd.prog 32 #[.slice a n cap] w fun e w' => e = .returned (.string (tree l)) ∧ Below w.heap.size w w' := by
  intro m
  induction m with
  | zero =>
    intro n l a cap B w hm hln hcap h64 hr hs hB
    obtain rfl : n = 0 := by omega
    have HT := hideT (tree_nil l hln)
    clear hs hr
    go_enter Tryd.func32, Tryd.ntmps32
    go_wp2_with fail
    refine (all_any ⟨#[]⟩ _ (by decide)).mono ?_
    rintro e w1 ⟨rfl, hb1⟩
    go_wp2_with fail
    go_ret
    exact ⟨Nu.ret_strJ HT.out.symm, hb1⟩
  | succ m ih =>
    intro n l a cap B w hm hln hcap h64 hr hs hB
    by_cases h0 : n = 0
    · exact ih n l a cap B w (by omega) hln hcap h64 hr hs hB
    · obtain ⟨b, off, rfl, hb, hc⟩ := hs.some (by omega)
      clear hs
      by_cases h1 : n = 1
      · have HT := hideT (tree_one l (by omega))
        have ci := hc 0 (by omega)
        rw [Nat.add_zero] at ci
        have hsz := hr 0 (by omega)
        obtain ⟨s, hse⟩ : ∃ s, s = l[0]'(by omega) := ⟨_, rfl⟩
        rw [← hse] at ci hsz
        have HSE := hideT hse
        subst h1
        clear hc hse hr ih
        go_enter Tryd.func32, Tryd.ntmps32
        go_wp2_with fail
        refine (l03Leaf_any s _ (by omega)).mono ?_
        rintro e w1 ⟨rfl, hb1⟩
        go_wp2_with fail
        go_ret
        exact ⟨Nu.ret_strJ (by rw [HT.out, ← HSE.out]), hb1⟩
      · have hp := half_pos n
        have hl := half_lt n (by omega)
        have HT := hideT (tree_two l (by omega))
        obtain ⟨k, hk⟩ : ∃ k, k = half n := ⟨_, rfl⟩
        have HK := hideT hk
        rw [← hk] at hp hl
        clear hk
        have I1 : Hid (∀ W : World, Below w.heap.size w W → Calls Tryd.prog 32 #[.slice (some ⟨b, off, none⟩) k cap] W fun e w' => e = .returned (.string (tree (l.take k))) ∧ Below W.heap.size W w') := fun W hW =>
          ih k (l.take k) (some ⟨b, off, none⟩) cap B W (by omega) (by rw [List.length_take]; omega) (by omega) (by omega) (fun j hj => by rw [List.getElem_take]; exact hr j _) ((Strs.take hb hc).after hW hB) (Nat.le_trans hB hW.size)
        have I2 : Hid (∀ W : World, Below w.heap.size w W → Calls Tryd.prog 32 #[.slice (some ⟨b, off + k, none⟩) (n - k) (cap - k)] W fun e w' => e = .returned (.string (tree (l.drop k))) ∧ Below W.heap.size W w') := fun W hW =>
          ih (n - k) (l.drop k) (some ⟨b, off + k, none⟩) (cap - k) B W (by omega) (by rw [List.length_drop]; omega) (by omega) (by omega) (fun j hj => by rw [List.getElem_drop]; exact hr _ _) ((Strs.drop hb hc).after hW hB) (Nat.le_trans hB hW.size)
        have HLN := hideT hln
        have s1 := tree_size (l.take k)
        have s2 := tree_size (l.drop k)
        clear hc hr ih hln
        have i0 : ¬ (n : Int) = 0 := by omega
        have i1 : ¬ (n : Int) = 1 := by omega
        have g1 : (k : Int) ≤ cap := by omega
        have g2 : (k : Int) ≤ n := by omega
        have g4 : ¬ cap = k := by omega
        have HH := hideT (half_spec n w (by omega) (by omega))
        rw [← HK.out] at HH
        go_enter Tryd.func32, Tryd.ntmps32
        go_wp2_with fail
        refine HH.out.mono ?_
        rintro e w1 ⟨rfl, hw⟩
        subst w1
        go_wp2_with fail
        go_region_with (first | (go_at_call 32; (with_reducible refine (I1.out _ ?_).mono ?_); (· exact (Below.refl _ _).drew); rintro e w2 ⟨rfl, hb2⟩; have HB2 := hideT (show Below w.heap.size w w2 from ⟨hb2.os, hb2.tape, hb2.output, hb2.size, hb2.block⟩); clear hb2) | (go_at_call 32; (with_reducible refine (I2.out w2 HB2.out).mono ?_); rintro e w3 ⟨rfl, hb3⟩; have HB3 := hideT (HB2.out.trans (hb3.mono HB2.out.size)); clear hb3) | (go_at_call 44; refine (l03Node_any (tree (l.take k)) (tree (l.drop k)) w3 ?_ ?_).mono ?_; (· omega); (· omega); rintro e w4 ⟨rfl, hb4⟩; have HB4 := hideT (HB3.out.trans (hb4.mono HB3.out.size)); clear hb4))
        all_goals (try go_wp2_with fail)
        all_goals go_ret
        all_goals exact ⟨Nu.ret_strJ (by rw [HT.out, HLN.out, ← HK.out]), HB4.out⟩
end Go.Proofs.YtghghkfhcpldhaaDoor.Tr

/- The walk of spec.l03Path: the path of one of right entries, in memory of its own. -/
namespace Go.Proofs.YtghghkfhcpldhaaDoor.Tr
open Go.RowKit
open Go.Proofs.YtghghkfhcpldhaaDoor.St
open Go.Proofs.YtghghkfhcpldhaaDoor.Sh (step_append_own own_empty)

set_option maxRecDepth 100000 in
set_option maxHeartbeats 8000000 in
theorem path_spec : ∀ (m n i : Nat) (l : List ByteArray) (a : Option Addr) (cap B : Nat) (w : World), n ≤ m → l.length = n → 1 ≤ n → i < n → n ≤ cap → n ≤ 64 → (∀ j (h : j < l.length), l[j].size ≤ 100) → Strs w B a l → B ≤ w.heap.size →
    Calls Tryd.prog 47 #[.slice a n cap, .int .i64 i] w fun e w' => ∃ v, e = .returned v ∧ OwnS w' w.heap.size v (path l i) ∧ Below w.heap.size w w' := by
  intro m
  induction m with
  | zero =>
    intro n i l a cap B w hm hln h1
    omega
  | succ m ih =>
    intro n i l a cap B w hm hln h1 hi hcap h64 hr hs hB
    obtain ⟨b, off, rfl, hb, hc⟩ := hs.some (by omega)
    obtain ⟨i0, hif, hz0, hz1, hz2⟩ := info_parts Tryd.infoS9
    clear hs
    by_cases hn1 : n = 1
    · have HP := hideT (path_one l i (by omega))
      subst hn1
      clear hc hr ih
      go_enter Tryd.func47, Tryd.ntmps47
      go_wp2_with fail
      go_ret
      exact ⟨_, rfl, by rw [HP.out]; exact own_empty _ _ _ (Nat.le_refl _), (Below.refl _ _).alloc (Nat.le_refl _) _⟩
    · have hp := half_pos n
      have hl := half_lt n (by omega)
      have HPL := hideT (path_left l i (by omega))
      have HPR := hideT (path_right l i (by omega))
      have HLE := hideT (path_length m)
      obtain ⟨k, hk⟩ : ∃ k, k = half n := ⟨_, rfl⟩
      have HH := hideT (half_spec n w (by omega) (by omega))
      rw [hln, ← hk] at HPL HPR
      rw [← hk] at hp hl HH
      have TL : Hid (∀ W : World, Below w.heap.size w W → Calls Tryd.prog 32 #[.slice (some ⟨b, off, none⟩) k cap] W fun e w' => e = .returned (.string (tree (l.take k))) ∧ Below W.heap.size W w') := fun W hW =>
        tree_spec k k (l.take k) (some ⟨b, off, none⟩) cap B W (Nat.le_refl _) (by rw [List.length_take]; omega) (by omega) (by omega) (fun j hj => by rw [List.getElem_take]; exact hr j _) ((Strs.take hb hc).after hW hB) (Nat.le_trans hB hW.size)
      have TR : Hid (∀ W : World, Below w.heap.size w W → Calls Tryd.prog 32 #[.slice (some ⟨b, off + k, none⟩) (n - k) (cap - k)] W fun e w' => e = .returned (.string (tree (l.drop k))) ∧ Below W.heap.size W w') := fun W hW =>
        tree_spec (n - k) (n - k) (l.drop k) (some ⟨b, off + k, none⟩) (cap - k) B W (Nat.le_refl _) (by rw [List.length_drop]; omega) (by omega) (by omega) (fun j hj => by rw [List.getElem_drop]; exact hr _ _) ((Strs.drop hb hc).after hW hB) (Nat.le_trans hB hW.size)
      have PL : Hid (i < k → ∀ W : World, Below w.heap.size w W → Calls Tryd.prog 47 #[.slice (some ⟨b, off, none⟩) k cap, .int .i64 i] W fun e w' => ∃ v, e = .returned v ∧ OwnS w' W.heap.size v (path (l.take k) i) ∧ Below W.heap.size W w') := fun hik W hW =>
        ih k i (l.take k) (some ⟨b, off, none⟩) cap B W (by omega) (by rw [List.length_take]; omega) (by omega) hik (by omega) (by omega) (fun j hj => by rw [List.getElem_take]; exact hr j _) ((Strs.take hb hc).after hW hB) (Nat.le_trans hB hW.size)
      have PR : Hid (¬ i < k → ∀ W : World, Below w.heap.size w W → Calls Tryd.prog 47 #[.slice (some ⟨b, off + k, none⟩) (n - k) (cap - k), .int .i64 ((i : Int) - k)] W fun e w' => ∃ v, e = .returned v ∧ OwnS w' W.heap.size v (path (l.drop k) (i - k)) ∧ Below W.heap.size W w') := fun hik W hW => by
        have := ih (n - k) (i - k) (l.drop k) (some ⟨b, off + k, none⟩) (cap - k) B W (by omega) (by rw [List.length_drop]; omega) (by omega) (by omega) (by omega) (by omega) (fun j hj => by rw [List.getElem_drop]; exact hr _ _) ((Strs.drop hb hc).after hW hB) (Nat.le_trans hB hW.size)
        rw [show ((i - k : Nat) : Int) = (i : Int) - k by omega] at this
        exact this
      have i1 : ¬ (n : Int) = 1 := by omega
      have g1 : (k : Int) ≤ cap := by omega
      have g2 : (k : Int) ≤ n := by omega
      have g4 : ¬ cap = k := by omega
      have g5 : IntKind.i64.wrap ((i : Int) - k) = (i : Int) - k := by simp [IntKind.wrap, IntKind.bits, IntKind.signed]; omega
      clear hc hr ih hk
      by_cases hik : i < k
      · have HE := hideT (HPL.out hik)
        have hn3 : (path (l.take k) i).length + 1 ≤ 65 := by have := HLE.out (l.take k) i (by rw [List.length_take]; omega); rw [List.length_take] at this; omega
        have HPC := hideT (PL.out hik)
        go_enter Tryd.func47, Tryd.ntmps47
        go_wp2_with fail
        refine HH.out.mono ?_
        rintro e w1 ⟨rfl, hw⟩
        subst w1
        go_wp2_with fail
        go_region_law (first | (refine step_append_own rfl (.tmp 20) (.tmp 25) 23 rfl w.heap.size 9 i0 (.string ⟨#[]⟩) 1 16 Tryd.underlying23 hif hz0 hz1 hz2 rfl (by decide) v (path (l.take k) i).length ((path (l.take k) i).map Value.string) rfl (HO3.out.alloc _) ⟨w3.heap.size, 0, none⟩ 1 1 [.string (tree (l.drop k))] rfl rfl (one_newS w3 _ _) (one_cellS _) (by unfold maxLen; omega) (by omega) (by have := HB3.out.size; simp; omega) ?_; intro v' w4 hown4 hgrow; have HB4 := hideT (app_one HB3.out HB3.out.size (Nat.le_refl _) HO3.out hgrow); have HO4 := hideT (OwnS.snoc hown4); clear hown4 hgrow) | (go_simp; go_at_call 47; (with_reducible refine (HPC.out _ ?_).mono ?_); (· exact (Below.refl _ _).drew); rintro e w2 ⟨v, rfl, ho2, hb2⟩; have HB2 := hideT (show Below w.heap.size w w2 from ⟨hb2.os, hb2.tape, hb2.output, hb2.size, hb2.block⟩); have HO2 := hideT (show OwnS w2 w.heap.size v (path (l.take k) i) from ho2); clear hb2 ho2) | (go_simp; go_at_call 32; (with_reducible refine (TR.out w2 HB2.out).mono ?_); rintro e w3 ⟨rfl, hb3⟩; have HB3 := hideT (HB2.out.trans (hb3.mono HB2.out.size)); have HO3 := hideT (HO2.out.below hb3); clear hb3))
        all_goals (try go_wp2_with fail)
        all_goals go_ret
        all_goals exact ⟨_, rfl, by rw [HE.out]; exact HO4.out, HB4.out⟩
      · have HE := hideT (HPR.out hik)
        have hn3 : (path (l.drop k) (i - k)).length + 1 ≤ 65 := by have := HLE.out (l.drop k) (i - k) (by rw [List.length_drop]; omega); rw [List.length_drop] at this; omega
        have HPC := hideT (PR.out hik)
        go_enter Tryd.func47, Tryd.ntmps47
        go_wp2_with fail
        refine HH.out.mono ?_
        rintro e w1 ⟨rfl, hw⟩
        subst w1
        go_wp2_with fail
        go_region_law (first | (refine step_append_own rfl (.tmp 33) (.tmp 38) 23 rfl w.heap.size 9 i0 (.string ⟨#[]⟩) 1 16 Tryd.underlying23 hif hz0 hz1 hz2 rfl (by decide) v (path (l.drop k) (i - k)).length ((path (l.drop k) (i - k)).map Value.string) rfl (HO3.out.alloc _) ⟨w3.heap.size, 0, none⟩ 1 1 [.string (tree (l.take k))] rfl rfl (one_newS w3 _ _) (one_cellS _) (by unfold maxLen; omega) (by omega) (by have := HB3.out.size; simp; omega) ?_; intro v' w4 hown4 hgrow; have HB4 := hideT (app_one HB3.out HB3.out.size (Nat.le_refl _) HO3.out hgrow); have HO4 := hideT (OwnS.snoc hown4); clear hown4 hgrow) | (go_simp; go_at_call 47; (with_reducible refine (HPC.out _ ?_).mono ?_); (· exact (Below.refl _ _).drew); rintro e w2 ⟨v, rfl, ho2, hb2⟩; have HB2 := hideT (show Below w.heap.size w w2 from ⟨hb2.os, hb2.tape, hb2.output, hb2.size, hb2.block⟩); have HO2 := hideT (show OwnS w2 w.heap.size v (path (l.drop k) (i - k)) from ho2); clear hb2 ho2) | (go_simp; go_at_call 32; (with_reducible refine (TL.out w2 HB2.out).mono ?_); rintro e w3 ⟨rfl, hb3⟩; have HB3 := hideT (HB2.out.trans (hb3.mono HB2.out.size)); have HO3 := hideT (HO2.out.below hb3); clear hb3))
        all_goals (try go_wp2_with fail)
        all_goals go_ret
        all_goals exact ⟨_, rfl, by rw [HE.out]; exact HO4.out, HB4.out⟩
end Go.Proofs.YtghghkfhcpldhaaDoor.Tr
