/- Texts put together: ProofPlain, ProofWalks, TreeSpec, ProofSpec. -/
import Derived.Test.YtghghkfhcpldhaaDoorPf0
import Derived.Test.YtghghkfhcpldhaaDoorStrOwn
import Derived.Deep.RegionWith
import Derived.BigRegion
import Derived.Test.YtghghkfhcpldhaaDoorShaAppend
/- Plain mathematics of proofs that the first of right entries are the beginning of all. -/
namespace Go.Proofs.YtghghkfhcpldhaaDoor.Tr

def proof (l : List ByteArray) (m : Nat) (b : Bool) : List ByteArray :=
  if _h : l.length ≤ m ∨ l.length ≤ 1 then (if b = true then [] else [tree l])
  else if m ≤ half l.length then proof (l.take (half l.length)) m b ++ [tree (l.drop (half l.length))]
  else proof (l.drop (half l.length)) (m - half l.length) false ++ [tree (l.take (half l.length))]
termination_by l.length
decreasing_by
  · have := half_lt l.length (by omega)
    simp
    omega
  · have := half_pos l.length
    simp
    omega
theorem proof_whole (l : List ByteArray) (m : Nat) (h : l.length = m) : proof l m true = [] := by rw [proof, dif_pos (by omega), if_pos rfl]
theorem proof_part (l : List ByteArray) (m : Nat) (h : l.length = m) : proof l m false = [tree l] := by rw [proof, dif_pos (by omega), if_neg (by decide)]
theorem proof_left (l : List ByteArray) (m : Nat) (b : Bool) (h : 2 ≤ l.length) (hm : m < l.length) (hi : m ≤ half l.length) : proof l m b = proof (l.take (half l.length)) m b ++ [tree (l.drop (half l.length))] := by
  rw [proof, dif_neg (by omega), if_pos hi]
theorem proof_right (l : List ByteArray) (m : Nat) (b : Bool) (h : 2 ≤ l.length) (hm : m < l.length) (hi : ¬ m ≤ half l.length) : proof l m b = proof (l.drop (half l.length)) (m - half l.length) false ++ [tree (l.take (half l.length))] := by
  rw [proof, dif_neg (by omega), if_neg hi]
theorem proof_length : ∀ (f : Nat) (l : List ByteArray) (m : Nat) (b : Bool), l.length ≤ f → (proof l m b).length ≤ l.length + 1
  | 0, l, m, b, h => by
    rw [proof, dif_pos (by omega)]
    split
    · simp
    · simp
  | f + 1, l, m, b, h => by
    by_cases h1 : l.length ≤ m ∨ l.length ≤ 1
    · rw [proof, dif_pos h1]
      split
      · simp
      · simp
    · have h2 := half_lt l.length (by omega)
      have h3 := half_pos l.length
      by_cases hi : m ≤ half l.length
      · rw [proof_left l m b (by omega) (by omega) hi]
        have := proof_length f (l.take (half l.length)) m b (by simp; omega)
        simp at this ⊢
        omega
      · rw [proof_right l m b (by omega) (by omega) hi]
        have := proof_length f (l.drop (half l.length)) (m - half l.length) false (by simp; omega)
        simp at this ⊢
        omega
def proofR (l : List ByteArray) (i : Int) : List ByteArray := if right l = true ∧ 1 ≤ i ∧ i ≤ l.length then proof l i.toNat true else []
theorem proofR_yes (l : List ByteArray) (i : Nat) (h : right l = true) (h1 : 1 ≤ i) (hi : i ≤ l.length) : proofR l i = proof l i true := by
  unfold proofR
  rw [if_pos ⟨h, by omega, by omega⟩]
  rfl
theorem proofR_no (l : List ByteArray) (i : Int) (h : ¬ (right l = true ∧ 1 ≤ i ∧ i ≤ l.length)) : proofR l i = [] := if_neg h
theorem proofR_length (l : List ByteArray) (i : Int) : (proofR l i).length ≤ 65 := by
  unfold proofR
  split
  · rename_i h
    have h1 := ((right_yes l).1 h.1).1
    have h2 := proof_length _ l i.toNat true (Nat.le_refl _)
    omega
  · simp
end Go.Proofs.YtghghkfhcpldhaaDoor.Tr

/- The walk of impl.proofIn: the proof of the first of right entries, in memory of its own. -/
namespace Go.Proofs.YtghghkfhcpldhaaDoor.Tr
open Go.RowKit
open Go.Proofs.YtghghkfhcpldhaaDoor.St
open Go.Proofs.YtghghkfhcpldhaaDoor.Sh (Vars)

theorem own_one (W : World) (base : Nat) (s : ByteArray) (h : base ≤ W.heap.size) : OwnS (W.alloc (.cells #[.string s] 9)) base (.slice (some ⟨W.heap.size, 0, none⟩) 1 1) [s] :=
  ⟨rfl, Or.inr ⟨W.heap.size, 1, #[.string s], rfl, h, heap_alloc_last W _, Nat.le_refl _, by decide, rfl, rfl⟩⟩

set_option maxRecDepth 100000 in
set_option maxHeartbeats 8000000 in
theorem proof_impl : ∀ (m n i : Nat) (bb : Bool) (l : List ByteArray) (a : Option Addr) (cap B : Nat) (w : World), n ≤ m → l.length = n → 1 ≤ i → i ≤ n → n ≤ cap → n ≤ 64 → (∀ j (h : j < l.length), l[j].size ≤ 100) → Strs w B a l → B ≤ w.heap.size → Vars w →
    Calls Tryd.prog 29 #[.slice a n cap, .int .i64 i, .bool bb] w fun e w' => ∃ v, e = .returned v ∧ OwnS w' w.heap.size v (proof l i bb) ∧ Below w.heap.size w w' := by
  intro m
  induction m with
  | zero =>
    intro n i bb l a cap B w hm hln h1
    omega
  | succ m ih =>
    intro n i bb l a cap B w hm hln h1 hi hcap h64 hr hs hB hV
    obtain ⟨b, off, rfl, hb, hc⟩ := hs.some (by omega)
    obtain ⟨i0, hif, hz0, hz1, hz2⟩ := info_parts Tryd.infoS9
    have HV := hideT hV
    have hv2 := hV.two
    clear hV
    by_cases hn1 : i = n
    · subst hn1
      cases bb with
      | true =>
        have HP := hideT (proof_whole l i hln)
        clear hc hr ih hs
        go_enter Tryd.func29, Tryd.ntmps29
        go_wp2_with fail
        go_ret
        exact ⟨_, rfl, by rw [HP.out]; exact OwnS.nil _ _, Below.refl _ _⟩
      | false =>
        have HP := hideT (proof_part l i hln)
        have HT := hideT (tree_impl i i l (some ⟨b, off, none⟩) cap B w (Nat.le_refl _) hln hcap h64 hr hs hB HV.out)
        clear hc hr ih hs
        go_enter Tryd.func29, Tryd.ntmps29
        go_wp2_with fail
        refine HT.out.mono ?_
        rintro e w1 ⟨rfl, hb1⟩
        have HB1 := hideT hb1
        clear hb1
        go_wp2_with fail
        go_ret
        exact ⟨_, rfl, by rw [HP.out]; exact own_one _ _ _ HB1.out.size, HB1.out.alloc HB1.out.size _⟩
    · have hp := half_pos n
      have hl := half_lt n (by omega)
      have HPL := hideT (proof_left l i bb (by omega) (by omega))
      have HPR := hideT (proof_right l i bb (by omega) (by omega))
      have HLE := hideT (proof_length m)
      clear hs
      obtain ⟨k, hk⟩ : ∃ k, k = half n := ⟨_, rfl⟩
      have HCut := hideT (cut_any b off n cap w (by omega) (by omega) hcap)
      rw [hln, ← hk] at HPL HPR
      rw [← hk] at hp hl HCut
      have TL : Hid (∀ W : World, Below w.heap.size w W → Calls Tryd.prog 45 #[.slice (some ⟨b, off, none⟩) k k] W fun e w' => e = .returned (.string (tree (l.take k))) ∧ Below W.heap.size W w') := fun W hW =>
        tree_impl k k (l.take k) (some ⟨b, off, none⟩) k B W (Nat.le_refl _) (by rw [List.length_take]; omega) (by omega) (by omega) (fun j hj => by rw [List.getElem_take]; exact hr j _) ((Strs.take hb hc).after hW hB) (Nat.le_trans hB hW.size) (HV.out.below hW hv2)
      have TR : Hid (∀ W : World, Below w.heap.size w W → Calls Tryd.prog 45 #[.slice (some ⟨b, off + k, none⟩) (n - k) (n - k)] W fun e w' => e = .returned (.string (tree (l.drop k))) ∧ Below W.heap.size W w') := fun W hW =>
        tree_impl (n - k) (n - k) (l.drop k) (some ⟨b, off + k, none⟩) (n - k) B W (Nat.le_refl _) (by rw [List.length_drop]; omega) (by omega) (by omega) (fun j hj => by rw [List.getElem_drop]; exact hr _ _) ((Strs.drop hb hc).after hW hB) (Nat.le_trans hB hW.size) (HV.out.below hW hv2)
      have PL : Hid (i ≤ k → ∀ W : World, Below w.heap.size w W → Calls Tryd.prog 29 #[.slice (some ⟨b, off, none⟩) k k, .int .i64 i, .bool bb] W fun e w' => ∃ v, e = .returned v ∧ OwnS w' W.heap.size v (proof (l.take k) i bb) ∧ Below W.heap.size W w') := fun hik W hW =>
        ih k i bb (l.take k) (some ⟨b, off, none⟩) k B W (by omega) (by rw [List.length_take]; omega) h1 hik (by omega) (by omega) (fun j hj => by rw [List.getElem_take]; exact hr j _) ((Strs.take hb hc).after hW hB) (Nat.le_trans hB hW.size) (HV.out.below hW hv2)
      have PR : Hid (¬ i ≤ k → ∀ W : World, Below w.heap.size w W → Calls Tryd.prog 29 #[.slice (some ⟨b, off + k, none⟩) (n - k) (n - k), .int .i64 ((i : Int) - k), .bool false] W fun e w' => ∃ v, e = .returned v ∧ OwnS w' W.heap.size v (proof (l.drop k) (i - k) false) ∧ Below W.heap.size W w') := fun hik W hW => by
        have := ih (n - k) (i - k) false (l.drop k) (some ⟨b, off + k, none⟩) (n - k) B W (by omega) (by rw [List.length_drop]; omega) (by omega) (by omega) (by omega) (by omega) (fun j hj => by rw [List.getElem_drop]; exact hr _ _) ((Strs.drop hb hc).after hW hB) (Nat.le_trans hB hW.size) (HV.out.below hW hv2)
        rw [show ((i - k : Nat) : Int) = (i : Int) - k by omega] at this
        exact this
      have i1 : ¬ (i : Int) = n := by omega
      clear hc hr ih hk
      by_cases hik : i ≤ k
      · have HE := hideT (HPL.out hik)
        have hn3 : (proof (l.take k) i bb).length + 1 ≤ 66 := by have := HLE.out (l.take k) i bb (by rw [List.length_take]; omega); rw [List.length_take] at this; omega
        go_enter Tryd.func29, Tryd.ntmps29
        go_wp2_with fail
        refine HCut.out.mono ?_
        rintro e w1 ⟨rfl, hb1, hh1⟩
        have HB1 := hideT hb1
        have HZ1 := hideT (show w1.heap.size = w.heap.size by rw [hh1])
        clear hb1 hh1
        go_wp2_with fail
        refine (PL.out hik w1 HB1.out).mono ?_
        rintro e w2 ⟨v, rfl, ho2, hb2⟩
        have HB2 := hideT (HB1.out.trans (hb2.mono HB1.out.size))
        have HO2 := hideT ho2
        clear hb2 ho2
        go_wp2_with fail
        refine (TR.out w2 HB2.out).mono ?_
        rintro e w3 ⟨rfl, hb3⟩
        have HB3 := hideT (HB2.out.trans (hb3.mono HB2.out.size))
        have HO3 := hideT (HO2.out.below hb3)
        clear hb3
        go_wp2_with (at_builtin; refine wpList_append_own _ rfl (.tmp 31) (.tmp 34) 23 rfl w1.heap.size 9 i0 (.string ⟨#[]⟩) 1 16 Tryd.underlying23 hif hz0 hz1 hz2 rfl (by decide) v (proof (l.take k) i bb).length ((proof (l.take k) i bb).map Value.string) rfl (HO3.out.alloc _) ⟨w3.heap.size, 0, none⟩ 1 1 [.string (tree (l.drop k))] rfl rfl (one_newS w3 _ _) (one_cellS _) ?c3 ?c4 ?c5 ?_; (case c3 => unfold maxLen; omega); (case c4 => omega); (case c5 => have := HB3.out.size; have := HZ1.out; simp; omega); intro v' w4 hown4 hgrow _; have HB4 := hideT (app_one HB3.out HB3.out.size (Nat.le_of_eq HZ1.out.symm) HO3.out hgrow); have HO4 := hideT (OwnS.snoc hown4); clear hown4 hgrow)
        go_ret
        exact ⟨_, rfl, by rw [HE.out, ← HZ1.out]; exact HO4.out, HB4.out⟩
      · have HE := hideT (HPR.out hik)
        have hn3 : (proof (l.drop k) (i - k) false).length + 1 ≤ 66 := by have := HLE.out (l.drop k) (i - k) false (by rw [List.length_drop]; omega); rw [List.length_drop] at this; omega
        go_enter Tryd.func29, Tryd.ntmps29
        go_wp2_with fail
        refine HCut.out.mono ?_
        rintro e w1 ⟨rfl, hb1, hh1⟩
        have HB1 := hideT hb1
        have HZ1 := hideT (show w1.heap.size = w.heap.size by rw [hh1])
        clear hb1 hh1
        go_wp2_with fail
        refine (PR.out hik w1 HB1.out).mono ?_
        rintro e w2 ⟨v, rfl, ho2, hb2⟩
        have HB2 := hideT (HB1.out.trans (hb2.mono HB1.out.size))
        have HO2 := hideT ho2
        clear hb2 ho2
        go_wp2_with fail
        refine (TL.out w2 HB2.out).mono ?_
        rintro e w3 ⟨rfl, hb3⟩
        have HB3 := hideT (HB2.out.trans (hb3.mono HB2.out.size))
        have HO3 := hideT (HO2.out.below hb3)
        clear hb3
        go_wp2_with (at_builtin; refine wpList_append_own _ rfl (.tmp 40) (.tmp 43) 23 rfl w1.heap.size 9 i0 (.string ⟨#[]⟩) 1 16 Tryd.underlying23 hif hz0 hz1 hz2 rfl (by decide) v (proof (l.drop k) (i - k) false).length ((proof (l.drop k) (i - k) false).map Value.string) rfl (HO3.out.alloc _) ⟨w3.heap.size, 0, none⟩ 1 1 [.string (tree (l.take k))] rfl rfl (one_newS w3 _ _) (one_cellS _) ?c3 ?c4 ?c5 ?_; (case c3 => unfold maxLen; omega); (case c4 => omega); (case c5 => have := HB3.out.size; have := HZ1.out; simp; omega); intro v' w4 hown4 hgrow _; have HB4 := hideT (app_one HB3.out HB3.out.size (Nat.le_of_eq HZ1.out.symm) HO3.out hgrow); have HO4 := hideT (OwnS.snoc hown4); clear hown4 hgrow)
        go_ret
        exact ⟨_, rfl, by rw [HE.out, ← HZ1.out]; exact HO4.out, HB4.out⟩
end Go.Proofs.YtghghkfhcpldhaaDoor.Tr

/- The walk of spec.l03Tree: of right entries it answers their tree, and writes nothing that was there. -/
namespace Go.Proofs.YtghghkfhcpldhaaDoor.Tr
open Go.RowKit
open Go.Proofs.YtghghkfhcpldhaaDoor.St
open Go.Proofs.YtghghkfhcpldhaaDoor.Sh (leafV nodeV all_any l03Leaf_any l03Node_any)

set_option maxRecDepth 100000 in
set_option maxHeartbeats 4000000 in
theorem tree_spec : ∀ (m n : Nat) (l : List ByteArray) (a : Option Addr) (cap B : Nat) (w : World), n ≤ m → l.length = n → n ≤ cap → n ≤ 64 → (∀ j (h : j < l.length), l[j].size ≤ 100) → Strs w B a l → B ≤ w.heap.size →
    Calls Tryd.prog 32 #[.slice a n cap] w fun e w' => e = .returned (.string (tree l)) ∧ Below w.heap.size w w' := by
  intro m
  induction m with
  | zero =>
    intro n l a cap B w hm hln hcap h64 hr hs hB
    obtain rfl : n = 0 := by omega
    have HT := hideT (tree_nil l hln)
    clear hs hr
    go_enter Tryd.func32, Tryd.ntmps32
    go_wp2_with fail
    refine (all_any ⟨#[]⟩ _ (by decide)).mono ?_
    rintro e w1 ⟨rfl, hb1⟩
    go_wp2_with fail
    go_ret
    exact ⟨Nu.ret_strJ HT.out.symm, hb1⟩
  | succ m ih =>
    intro n l a cap B w hm hln hcap h64 hr hs hB
    by_cases h0 : n = 0
    · exact ih n l a cap B w (by omega) hln hcap h64 hr hs hB
    · obtain ⟨b, off, rfl, hb, hc⟩ := hs.some (by omega)
      clear hs
      by_cases h1 : n = 1
      · have HT := hideT (tree_one l (by omega))
        have ci := hc 0 (by omega)
        rw [Nat.add_zero] at ci
        have hsz := hr 0 (by omega)
        obtain ⟨s, hse⟩ : ∃ s, s = l[0]'(by omega) := ⟨_, rfl⟩
        rw [← hse] at ci hsz
        have HSE := hideT hse
        subst h1
        clear hc hse hr ih
        go_enter Tryd.func32, Tryd.ntmps32
        go_wp2_with fail
        refine (l03Leaf_any s _ (by omega)).mono ?_
        rintro e w1 ⟨rfl, hb1⟩
        go_wp2_with fail
        go_ret
        exact ⟨Nu.ret_strJ (by rw [HT.out, ← HSE.out]), hb1⟩
      · have hp := half_pos n
        have hl := half_lt n (by omega)
        have HT := hideT (tree_two l (by omega))
        obtain ⟨k, hk⟩ : ∃ k, k = half n := ⟨_, rfl⟩
        have HK := hideT hk
        rw [← hk] at hp hl
        clear hk
        have I1 : Hid (∀ W : World, Below w.heap.size w W → Calls Tryd.prog 32 #[.slice (some ⟨b, off, none⟩) k cap] W fun e w' => e = .returned (.string (tree (l.take k))) ∧ Below W.heap.size W w') := fun W hW =>
          ih k (l.take k) (some ⟨b, off, none⟩) cap B W (by omega) (by rw [List.length_take]; omega) (by omega) (by omega) (fun j hj => by rw [List.getElem_take]; exact hr j _) ((Strs.take hb hc).after hW hB) (Nat.le_trans hB hW.size)
        have I2 : Hid (∀ W : World, Below w.heap.size w W → Calls Tryd.prog 32 #[.slice (some ⟨b, off + k, none⟩) (n - k) (cap - k)] W fun e w' => e = .returned (.string (tree (l.drop k))) ∧ Below W.heap.size W w') := fun W hW =>
          ih (n - k) (l.drop k) (some ⟨b, off + k, none⟩) (cap - k) B W (by omega) (by rw [List.length_drop]; omega) (by omega) (by omega) (fun j hj => by rw [List.getElem_drop]; exact hr _ _) ((Strs.drop hb hc).after hW hB) (Nat.le_trans hB hW.size)
        have HLN := hideT hln
        have s1 := tree_size (l.take k)
        have s2 := tree_size (l.drop k)
        clear hc hr ih hln
        have i0 : ¬ (n : Int) = 0 := by omega
        have i1 : ¬ (n : Int) = 1 := by omega
        have g1 : (k : Int) ≤ cap := by omega
        have g2 : (k : Int) ≤ n := by omega
        have g4 : ¬ cap = k := by omega
        have HH := hideT (half_spec n w (by omega) (by omega))
        rw [← HK.out] at HH
        go_enter Tryd.func32, Tryd.ntmps32
        go_wp2_with fail
        refine HH.out.mono ?_
        rintro e w1 ⟨rfl, hw⟩
        subst w1
        go_wp2_with fail
        go_region_with (first | (go_at_call 32; (with_reducible refine (I1.out _ ?_).mono ?_); (· exact (Below.refl _ _).drew); rintro e w2 ⟨rfl, hb2⟩; have HB2 := hideT (show Below w.heap.size w w2 from ⟨hb2.os, hb2.tape, hb2.output, hb2.size, hb2.block⟩); clear hb2) | (go_at_call 32; (with_reducible refine (I2.out w2 HB2.out).mono ?_); rintro e w3 ⟨rfl, hb3⟩; have HB3 := hideT (HB2.out.trans (hb3.mono HB2.out.size)); clear hb3) | (go_at_call 44; refine (l03Node_any (tree (l.take k)) (tree (l.drop k)) w3 ?_ ?_).mono ?_; (· omega); (· omega); rintro e w4 ⟨rfl, hb4⟩; have HB4 := hideT (HB3.out.trans (hb4.mono HB3.out.size)); clear hb4))
        all_goals (try go_wp2_with fail)
        all_goals go_ret
        all_goals exact ⟨Nu.ret_strJ (by rw [HT.out, HLN.out, ← HK.out]), HB4.out⟩
end Go.Proofs.YtghghkfhcpldhaaDoor.Tr

/- The walk of spec.l03Proof: the proof of the first of right entries, in memory of its own. -/
namespace Go.Proofs.YtghghkfhcpldhaaDoor.Tr
open Go.RowKit
open Go.Proofs.YtghghkfhcpldhaaDoor.St
open Go.Proofs.YtghghkfhcpldhaaDoor.Sh (step_append_own own_empty)

theorem own_nn {w : World} {base : Nat} {v : Value} {l : List ByteArray} (h : OwnS w base v l) (h0 : 0 < l.length) : v ≠ .slice none 0 0 := by
  rcases h.split with ⟨_, rfl⟩ | ⟨g, c, rfl, _⟩
  · simp at h0
  · simp

set_option maxRecDepth 100000 in
set_option maxHeartbeats 8000000 in
theorem proof_spec : ∀ (m n i : Nat) (bb : Bool) (l : List ByteArray) (a : Option Addr) (cap B : Nat) (w : World), n ≤ m → l.length = n → 1 ≤ i → i ≤ n → n ≤ cap → n ≤ 64 → (∀ j (h : j < l.length), l[j].size ≤ 100) → Strs w B a l → B ≤ w.heap.size →
    Calls Tryd.prog 31 #[.int .i64 i, .slice a n cap, .bool bb] w fun e w' => ∃ v, e = .returned v ∧ OwnS w' w.heap.size v (proof l i bb) ∧ v ≠ .slice none 0 0 ∧ Below w.heap.size w w' := by
  intro m
  induction m with
  | zero =>
    intro n i bb l a cap B w hm hln h1
    omega
  | succ m ih =>
    intro n i bb l a cap B w hm hln h1 hi hcap h64 hr hs hB
    obtain ⟨b, off, rfl, hb, hc⟩ := hs.some (by omega)
    obtain ⟨i0, hif, hz0, hz1, hz2⟩ := info_parts Tryd.infoS9
    by_cases hn1 : i = n
    · subst hn1
      cases bb with
      | true =>
        have HP := hideT (proof_whole l i hln)
        clear hc hr ih hs
        go_enter Tryd.func31, Tryd.ntmps31
        go_wp2_with fail
        go_ret
        exact ⟨_, rfl, by rw [HP.out]; exact own_empty _ _ _ (Nat.le_refl _), by simp, (Below.refl _ _).alloc (Nat.le_refl _) _⟩
      | false =>
        have HP := hideT (proof_part l i hln)
        have HT := hideT (tree_spec i i l (some ⟨b, off, none⟩) cap B w (Nat.le_refl _) hln hcap h64 hr hs hB)
        clear hc hr ih hs
        go_enter Tryd.func31, Tryd.ntmps31
        go_wp2_with fail
        refine HT.out.mono ?_
        rintro e w1 ⟨rfl, hb1⟩
        have HB1 := hideT hb1
        clear hb1
        go_wp2_with fail
        go_ret
        exact ⟨_, rfl, by rw [HP.out]; exact own_one _ _ _ HB1.out.size, by simp, HB1.out.alloc HB1.out.size _⟩
    · have hp := half_pos n
      have hl := half_lt n (by omega)
      have HPL := hideT (proof_left l i bb (by omega) (by omega))
      have HPR := hideT (proof_right l i bb (by omega) (by omega))
      have HLE := hideT (proof_length m)
      clear hs
      obtain ⟨k, hk⟩ : ∃ k, k = half n := ⟨_, rfl⟩
      have HH := hideT (half_spec n w (by omega) (by omega))
      rw [hln, ← hk] at HPL HPR
      rw [← hk] at hp hl HH
      have TL : Hid (∀ W : World, Below w.heap.size w W → Calls Tryd.prog 32 #[.slice (some ⟨b, off, none⟩) k cap] W fun e w' => e = .returned (.string (tree (l.take k))) ∧ Below W.heap.size W w') := fun W hW =>
        tree_spec k k (l.take k) (some ⟨b, off, none⟩) cap B W (Nat.le_refl _) (by rw [List.length_take]; omega) (by omega) (by omega) (fun j hj => by rw [List.getElem_take]; exact hr j _) ((Strs.take hb hc).after hW hB) (Nat.le_trans hB hW.size)
      have TR : Hid (∀ W : World, Below w.heap.size w W → Calls Tryd.prog 32 #[.slice (some ⟨b, off + k, none⟩) (n - k) (cap - k)] W fun e w' => e = .returned (.string (tree (l.drop k))) ∧ Below W.heap.size W w') := fun W hW =>
        tree_spec (n - k) (n - k) (l.drop k) (some ⟨b, off + k, none⟩) (cap - k) B W (Nat.le_refl _) (by rw [List.length_drop]; omega) (by omega) (by omega) (fun j hj => by rw [List.getElem_drop]; exact hr _ _) ((Strs.drop hb hc).after hW hB) (Nat.le_trans hB hW.size)
      have PL : Hid (i ≤ k → ∀ W : World, Below w.heap.size w W → Calls Tryd.prog 31 #[.int .i64 i, .slice (some ⟨b, off, none⟩) k cap, .bool bb] W fun e w' => ∃ v, e = .returned v ∧ OwnS w' W.heap.size v (proof (l.take k) i bb) ∧ Below W.heap.size W w') := fun hik W hW =>
        (ih k i bb (l.take k) (some ⟨b, off, none⟩) cap B W (by omega) (by rw [List.length_take]; omega) h1 hik (by omega) (by omega) (fun j hj => by rw [List.getElem_take]; exact hr j _) ((Strs.take hb hc).after hW hB) (Nat.le_trans hB hW.size)).mono fun e w' ⟨v, x1, x2, _, x3⟩ => ⟨v, x1, x2, x3⟩
      have PR : Hid (¬ i ≤ k → ∀ W : World, Below w.heap.size w W → Calls Tryd.prog 31 #[.int .i64 ((i : Int) - k), .slice (some ⟨b, off + k, none⟩) (n - k) (cap - k), .bool false] W fun e w' => ∃ v, e = .returned v ∧ OwnS w' W.heap.size v (proof (l.drop k) (i - k) false) ∧ Below W.heap.size W w') := fun hik W hW => by
        have := (ih (n - k) (i - k) false (l.drop k) (some ⟨b, off + k, none⟩) (cap - k) B W (by omega) (by rw [List.length_drop]; omega) (by omega) (by omega) (by omega) (by omega) (fun j hj => by rw [List.getElem_drop]; exact hr _ _) ((Strs.drop hb hc).after hW hB) (Nat.le_trans hB hW.size)).mono (fun e w' (h : ∃ v, e = .returned v ∧ OwnS w' W.heap.size v (proof (l.drop k) (i - k) false) ∧ v ≠ .slice none 0 0 ∧ Below W.heap.size W w') => (show ∃ v, e = .returned v ∧ OwnS w' W.heap.size v (proof (l.drop k) (i - k) false) ∧ Below W.heap.size W w' from let ⟨v, x1, x2, _, x3⟩ := h; ⟨v, x1, x2, x3⟩))
        rw [show ((i - k : Nat) : Int) = (i : Int) - k by omega] at this
        exact this
      have i1 : ¬ (i : Int) = n := by omega
      have g1 : (k : Int) ≤ cap := by omega
      have g2 : (k : Int) ≤ n := by omega
      have g4 : ¬ cap = k := by omega
      have g5 : IntKind.i64.wrap ((i : Int) - k) = (i : Int) - k := by simp [IntKind.wrap, IntKind.bits, IntKind.signed]; omega
      clear hc hr ih hk
      by_cases hik : i ≤ k
      · have HE := hideT (HPL.out hik)
        have hn3 : (proof (l.take k) i bb).length + 1 ≤ 66 := by have := HLE.out (l.take k) i bb (by rw [List.length_take]; omega); rw [List.length_take] at this; omega
        have HPC := hideT (PL.out hik)
        go_enter Tryd.func31, Tryd.ntmps31
        go_wp2_with fail
        refine HH.out.mono ?_
        rintro e w1 ⟨rfl, hw⟩
        subst w1
        go_wp2_with fail
        go_region_law (first | (refine step_append_own rfl (.tmp 28) (.tmp 33) 23 rfl w.heap.size 9 i0 (.string ⟨#[]⟩) 1 16 Tryd.underlying23 hif hz0 hz1 hz2 rfl (by decide) v (proof (l.take k) i bb).length ((proof (l.take k) i bb).map Value.string) rfl (HO3.out.alloc _) ⟨w3.heap.size, 0, none⟩ 1 1 [.string (tree (l.drop k))] rfl rfl (one_newS w3 _ _) (one_cellS _) (by unfold maxLen; omega) (by omega) (by have := HB3.out.size; simp; omega) ?_; intro v' w4 hown4 hgrow; have HB4 := hideT (app_one HB3.out HB3.out.size (Nat.le_refl _) HO3.out hgrow); have HO4 := hideT (OwnS.snoc hown4); clear hown4 hgrow) | (go_simp; go_at_call 31; (with_reducible refine (HPC.out _ ?_).mono ?_); (· exact (Below.refl _ _).drew); rintro e w2 ⟨v, rfl, ho2, hb2⟩; have HB2 := hideT (show Below w.heap.size w w2 from ⟨hb2.os, hb2.tape, hb2.output, hb2.size, hb2.block⟩); have HO2 := hideT (show OwnS w2 w.heap.size v (proof (l.take k) i bb) from ho2); clear hb2 ho2) | (go_simp; go_at_call 32; (with_reducible refine (TR.out w2 HB2.out).mono ?_); rintro e w3 ⟨rfl, hb3⟩; have HB3 := hideT (HB2.out.trans (hb3.mono HB2.out.size)); have HO3 := hideT (HO2.out.below hb3); clear hb3))
        all_goals (try go_wp2_with fail)
        all_goals go_ret
        all_goals exact ⟨_, rfl, by rw [HE.out]; exact HO4.out, own_nn HO4.out (by simp), HB4.out⟩
      · have HE := hideT (HPR.out hik)
        have hn3 : (proof (l.drop k) (i - k) false).length + 1 ≤ 66 := by have := HLE.out (l.drop k) (i - k) false (by rw [List.length_drop]; omega); rw [List.length_drop] at this; omega
        have HPC := hideT (PR.out hik)
        go_enter Tryd.func31, Tryd.ntmps31
        go_wp2_with fail
        refine HH.out.mono ?_
        rintro e w1 ⟨rfl, hw⟩
        subst w1
        go_wp2_with fail
        go_region_law (first | (refine step_append_own rfl (.tmp 41) (.tmp 46) 23 rfl w.heap.size 9 i0 (.string ⟨#[]⟩) 1 16 Tryd.underlying23 hif hz0 hz1 hz2 rfl (by decide) v (proof (l.drop k) (i - k) false).length ((proof (l.drop k) (i - k) false).map Value.string) rfl (HO3.out.alloc _) ⟨w3.heap.size, 0, none⟩ 1 1 [.string (tree (l.take k))] rfl rfl (one_newS w3 _ _) (one_cellS _) (by unfold maxLen; omega) (by omega) (by have := HB3.out.size; simp; omega) ?_; intro v' w4 hown4 hgrow; have HB4 := hideT (app_one HB3.out HB3.out.size (Nat.le_refl _) HO3.out hgrow); have HO4 := hideT (OwnS.snoc hown4); clear hown4 hgrow) | (go_simp; go_at_call 31; (with_reducible refine (HPC.out _ ?_).mono ?_); (· exact (Below.refl _ _).drew); rintro e w2 ⟨v, rfl, ho2, hb2⟩; have HB2 := hideT (show Below w.heap.size w w2 from ⟨hb2.os, hb2.tape, hb2.output, hb2.size, hb2.block⟩); have HO2 := hideT (show OwnS w2 w.heap.size v (proof (l.drop k) (i - k) false) from ho2); clear hb2 ho2) | (go_simp; go_at_call 32; (with_reducible refine (TL.out w2 HB2.out).mono ?_); rintro e w3 ⟨rfl, hb3⟩; have HB3 := hideT (HB2.out.trans (hb3.mono HB2.out.size)); have HO3 := hideT (HO2.out.below hb3); clear hb3))
        all_goals (try go_wp2_with fail)
        all_goals go_ret
        all_goals exact ⟨_, rfl, by rw [HE.out]; exact HO4.out, own_nn HO4.out (by simp), HB4.out⟩
end Go.Proofs.YtghghkfhcpldhaaDoor.Tr
