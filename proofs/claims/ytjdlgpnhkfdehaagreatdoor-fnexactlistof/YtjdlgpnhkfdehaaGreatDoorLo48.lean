/- Texts put together: TreeWalks, TreeSpec, StrArg, TreeTop, LsOf. -/
import Derived.Test.YtjdlgpnhkfdehaaGreatDoorLo47
import Derived.Deep.RegionWith
import Derived.BigRegion
import Derived.Test.YtjdlgpnhkfdehaaGreatDoorLo13
import Derived.Test.YtjdlgpnhkfdehaaGreatDoorLo20
import Derived.Test.YtjdlgpnhkfdehaaGreatDoorLo43
/- The walk of impl.treeOf: of right entries it answers their tree, and writes nothing that was there. -/
namespace Go.Proofs.YtjdlgpnhkfdehaaGreatDoor.Tr
open Go.RowKit
open Go.Proofs.YtjdlgpnhkfdehaaGreatDoor.St
open Go.Proofs.YtjdlgpnhkfdehaaGreatDoor.Sh (Vars leafV nodeV leafR nodeR leaf_impl node_impl digest_impl digestV leafR_yes nodeR_yes below3)
set_option maxRecDepth 100000 in
set_option maxHeartbeats 1000000 in
theorem cut_any (b off n cap : Nat) (w : World) (h2 : 2 ≤ n) (hn : n ≤ 1048576) (hc : n ≤ cap) :
    Calls Tryz.prog 183 #[.slice (some ⟨b, off, none⟩) n cap] w fun e w' => e = .returned (.tuple #[.slice (some ⟨b, off, none⟩) (half n) (half n), .slice (some ⟨b, off + half n, none⟩) (n - half n) (n - half n)]) ∧ Below w.heap.size w w' ∧ w'.heap = w.heap := by
  have hp := half_pos n
  have hl := half_lt n h2
  go_enter Tryz.func183, Tryz.ntmps183
  go_wp2_with fail
  refine (half_impl n w h2 (by omega)).mono ?_
  rintro e w1 ⟨rfl, hw⟩
  subst w1
  obtain ⟨k, hk⟩ : ∃ k, k = half n := ⟨_, rfl⟩
  rw [← hk] at hp hl ⊢
  have HK := hideT hk
  clear hk
  have g1 : (k : Int) ≤ cap := by omega
  have g2 : (k : Int) ≤ n := by omega
  have g3 : ¬ n = k := by omega
  have g4 : ¬ cap = k := by omega
  go_wp2_with fail
  go_region
  all_goals (try go_wp2_with fail)
  all_goals go_ret2
  all_goals exact ⟨by rw [← HK.out]; rfl, (Below.refl _ _).drew, rfl⟩
theorem empty_dig : digestV ⟨#[]⟩ = Sh.sha ⟨#[]⟩ := by
  unfold digestV
  rw [if_pos (by decide)]
set_option maxRecDepth 100000 in
set_option maxHeartbeats 2000000 in
theorem tree_impl : ∀ (m n : Nat) (l : List ByteArray) (a : Option Addr) (cap B : Nat) (w : World), n ≤ m → l.length = n → n ≤ cap → n ≤ 64 → (∀ j (h : j < l.length), l[j].size ≤ 100) → Strs w B a l → B ≤ w.heap.size → Vars w →
    Calls Tryz.prog 132 #[.slice a n cap] w fun e w' => e = .returned (.string (tree l)) ∧ Below w.heap.size w w' := by
  intro m
  induction m with
  | zero =>
    intro n l a cap B w hm hln hcap h64 hr hs hB hV
    obtain rfl : n = 0 := by omega
    have HT := hideT (tree_nil l hln)
    have HD := hideT empty_dig
    clear hs hr
    have HV := hideT hV
    clear hV
    go_enter Tryz.func132, Tryz.ntmps132
    go_wp2_with fail
    refine (digest_impl ⟨#[]⟩ _ (by decide) HV.out).mono ?_
    rw [HD.out]
    rintro e w1 ⟨rfl, hb1⟩
    go_wp2_with fail
    go_ret
    exact ⟨Nu.ret_strJ HT.out.symm, hb1⟩
  | succ m ih =>
    intro n l a cap B w hm hln hcap h64 hr hs hB hV
    by_cases h0 : n = 0
    · exact ih n l a cap B w (by omega) hln hcap h64 hr hs hB hV
    · obtain ⟨b, off, rfl, hb, hc⟩ := hs.some (by omega)
      have HV := hideT hV
      have hv2 := hV.two
      clear hV hs
      by_cases h1 : n = 1
      · have HT := hideT (tree_one l (by omega))
        have ci := hc 0 (by omega)
        rw [Nat.add_zero] at ci
        have hsz := hr 0 (by omega)
        obtain ⟨s, hse⟩ : ∃ s, s = l[0]'(by omega) := ⟨_, rfl⟩
        rw [← hse] at ci hsz
        have HSE := hideT hse
        have HL := hideT (leafR_yes s (by omega))
        subst h1
        clear hc hse hr ih
        go_enter Tryz.func132, Tryz.ntmps132
        go_wp2_with fail
        refine (leaf_impl s _ (by unfold maxLen; omega) HV.out).mono ?_
        rw [HL.out]
        rintro e w1 ⟨rfl, hb1⟩
        go_wp2_with fail
        go_ret
        exact ⟨Nu.ret_strJ (by rw [HT.out, ← HSE.out]), hb1⟩
      · have hp := half_pos n
        have hl := half_lt n (by omega)
        have HT := hideT (tree_two l (by omega))
        have HI := hideT ih
        have HR := hideT hr
        have HC := hideT hc
        have HLN := hideT hln
        clear hc hr ih
        have i0 : ¬ (n : Int) = 0 := by omega
        have i1 : ¬ (n : Int) = 1 := by omega
        go_enter Tryz.func132, Tryz.ntmps132
        go_wp2_with fail
        refine (cut_any b off n cap w (by omega) (by omega) hcap).mono ?_
        rintro e w1 ⟨rfl, hb1, hh1⟩
        have V1 := hideT (HV.out.below hb1 hv2)
        have HB1 := hideT hb1
        clear hb1 hh1
        go_wp2_with fail
        refine (HI.out (half n) (l.take (half n)) (some ⟨b, off, none⟩) (half n) B w1 (by omega) (by rw [List.length_take]; omega) (Nat.le_refl _) (by omega) (fun j hj => by rw [List.getElem_take]; exact HR.out j _) ((Strs.take hb HC.out).after HB1.out hB) (Nat.le_trans hB HB1.out.size) V1.out).mono ?_
        rintro e w2 ⟨rfl, hb2⟩
        have HB2 := hideT (HB1.out.trans (hb2.mono HB1.out.size))
        have V2 := hideT (HV.out.below HB2.out hv2)
        clear hb2
        go_wp2_with fail
        refine (HI.out (n - half n) (l.drop (half n)) (some ⟨b, off + half n, none⟩) (n - half n) B w2 (by omega) (by rw [List.length_drop]; omega) (Nat.le_refl _) (by omega) (fun j hj => by rw [List.getElem_drop]; exact HR.out _ _) ((Strs.drop hb HC.out).after HB2.out hB) (Nat.le_trans hB HB2.out.size) V2.out).mono ?_
        rintro e w3 ⟨rfl, hb3⟩
        have HB3 := hideT (HB2.out.trans (hb3.mono HB2.out.size))
        have V3 := hideT (HV.out.below HB3.out hv2)
        clear hb3
        have HN := hideT (nodeR_yes (tree (l.take (half n))) (tree (l.drop (half n))) (tree_size _) (tree_size _))
        go_wp2_with fail
        refine (node_impl (tree (l.take (half n))) (tree (l.drop (half n))) _ V3.out).mono ?_
        rw [HN.out]
        rintro e w4 ⟨rfl, hb4⟩
        have HB4 := hideT (HB3.out.trans (hb4.mono HB3.out.size))
        clear hb4
        go_wp2_with fail
        go_ret
        exact ⟨Nu.ret_strJ (by rw [HT.out, HLN.out]), HB4.out⟩
end Go.Proofs.YtjdlgpnhkfdehaaGreatDoor.Tr


/- The walk of spec.l03Tree: of right entries it answers their tree, and writes nothing that was there. -/
namespace Go.Proofs.YtjdlgpnhkfdehaaGreatDoor.Tr
open Go.RowKit
open Go.Proofs.YtjdlgpnhkfdehaaGreatDoor.St
open Go.Proofs.YtjdlgpnhkfdehaaGreatDoor.Sh (leafV nodeV all_any l03Leaf_any l03Node_any)
set_option maxRecDepth 100000 in
set_option maxHeartbeats 4000000 in
theorem tree_spec : ∀ (m n : Nat) (l : List ByteArray) (a : Option Addr) (cap B : Nat) (w : World), n ≤ m → l.length = n → n ≤ cap → n ≤ 64 → (∀ j (h : j < l.length), l[j].size ≤ 100) → Strs w B a l → B ≤ w.heap.size →
    Calls Tryz.prog 144 #[.slice a n cap] w fun e w' => e = .returned (.string (tree l)) ∧ Below w.heap.size w w' := by
  intro m
  induction m with
  | zero =>
    intro n l a cap B w hm hln hcap h64 hr hs hB
    obtain rfl : n = 0 := by omega
    have HT := hideT (tree_nil l hln)
    clear hs hr
    go_enter Tryz.func144, Tryz.ntmps144
    go_wp2_with fail
    refine (all_any ⟨#[]⟩ _ (by decide)).mono ?_
    rintro e w1 ⟨rfl, hb1⟩
    go_wp2_with fail
    go_ret
    exact ⟨Nu.ret_strJ HT.out.symm, hb1⟩
  | succ m ih =>
    intro n l a cap B w hm hln hcap h64 hr hs hB
    by_cases h0 : n = 0
    · exact ih n l a cap B w (by omega) hln hcap h64 hr hs hB
    · obtain ⟨b, off, rfl, hb, hc⟩ := hs.some (by omega)
      clear hs
      by_cases h1 : n = 1
      · have HT := hideT (tree_one l (by omega))
        have ci := hc 0 (by omega)
        rw [Nat.add_zero] at ci
        have hsz := hr 0 (by omega)
        obtain ⟨s, hse⟩ : ∃ s, s = l[0]'(by omega) := ⟨_, rfl⟩
        rw [← hse] at ci hsz
        have HSE := hideT hse
        subst h1
        clear hc hse hr ih
        go_enter Tryz.func144, Tryz.ntmps144
        go_wp2_with fail
        refine (l03Leaf_any s _ (by omega)).mono ?_
        rintro e w1 ⟨rfl, hb1⟩
        go_wp2_with fail
        go_ret
        exact ⟨Nu.ret_strJ (by rw [HT.out, ← HSE.out]), hb1⟩
      · have hp := half_pos n
        have hl := half_lt n (by omega)
        have HT := hideT (tree_two l (by omega))
        obtain ⟨k, hk⟩ : ∃ k, k = half n := ⟨_, rfl⟩
        have HK := hideT hk
        rw [← hk] at hp hl
        clear hk
        have I1 : Hid (∀ W : World, Below w.heap.size w W → Calls Tryz.prog 144 #[.slice (some ⟨b, off, none⟩) k cap] W fun e w' => e = .returned (.string (tree (l.take k))) ∧ Below W.heap.size W w') := fun W hW =>
          ih k (l.take k) (some ⟨b, off, none⟩) cap B W (by omega) (by rw [List.length_take]; omega) (by omega) (by omega) (fun j hj => by rw [List.getElem_take]; exact hr j _) ((Strs.take hb hc).after hW hB) (Nat.le_trans hB hW.size)
        have I2 : Hid (∀ W : World, Below w.heap.size w W → Calls Tryz.prog 144 #[.slice (some ⟨b, off + k, none⟩) (n - k) (cap - k)] W fun e w' => e = .returned (.string (tree (l.drop k))) ∧ Below W.heap.size W w') := fun W hW =>
          ih (n - k) (l.drop k) (some ⟨b, off + k, none⟩) (cap - k) B W (by omega) (by rw [List.length_drop]; omega) (by omega) (by omega) (fun j hj => by rw [List.getElem_drop]; exact hr _ _) ((Strs.drop hb hc).after hW hB) (Nat.le_trans hB hW.size)
        have HLN := hideT hln
        have s1 := tree_size (l.take k)
        have s2 := tree_size (l.drop k)
        clear hc hr ih hln
        have i0 : ¬ (n : Int) = 0 := by omega
        have i1 : ¬ (n : Int) = 1 := by omega
        have g1 : (k : Int) ≤ cap := by omega
        have g2 : (k : Int) ≤ n := by omega
        have g4 : ¬ cap = k := by omega
        have HH := hideT (half_spec n w (by omega) (by omega))
        rw [← HK.out] at HH
        go_enter Tryz.func144, Tryz.ntmps144
        go_wp2_with fail
        refine HH.out.mono ?_
        rintro e w1 ⟨rfl, hw⟩
        subst w1
        go_wp2_with fail
        go_region_with (first | (go_at_call 144; (with_reducible refine (I1.out _ ?_).mono ?_); (· exact (Below.refl _ _).drew); rintro e w2 ⟨rfl, hb2⟩; have HB2 := hideT (show Below w.heap.size w w2 from ⟨hb2.os, hb2.tape, hb2.output, hb2.size, hb2.block⟩); clear hb2) | (go_at_call 144; (with_reducible refine (I2.out w2 HB2.out).mono ?_); rintro e w3 ⟨rfl, hb3⟩; have HB3 := hideT (HB2.out.trans (hb3.mono HB2.out.size)); clear hb3) | (go_at_call 192; refine (l03Node_any (tree (l.take k)) (tree (l.drop k)) w3 ?_ ?_).mono ?_; (· omega); (· omega); rintro e w4 ⟨rfl, hb4⟩; have HB4 := hideT (HB3.out.trans (hb4.mono HB3.out.size)); clear hb4))
        all_goals (try go_wp2_with fail)
        all_goals go_ret
        all_goals exact ⟨Nu.ret_strJ (by rw [HT.out, HLN.out, ← HK.out]), HB4.out⟩
end Go.Proofs.YtjdlgpnhkfdehaaGreatDoor.Tr


/- A slice of texts that came in. -/
namespace Go.Proofs.YtjdlgpnhkfdehaaGreatDoor.St
open Go.RowKit
def IsStrs (w : World) (a : Option Addr) (len cap : Nat) (ss : List ByteArray) : Prop :=
  (a = none ∧ len = 0 ∧ cap = 0 ∧ ss = []) ∨
  ∃ x, a = some x ∧ len ≤ cap ∧ cap ≤ maxLen ∧ ss.length = cap ∧ (∀ i, i < ss.length → w.cell? (x.add i) = some (.string (ss.getD i ByteArray.empty))) ∧ ∀ s ∈ ss, s.size ≤ maxLen
end Go.Proofs.YtjdlgpnhkfdehaaGreatDoor.St


/- What both TreeHash answer, and the law on it. -/
namespace Go.Proofs.YtjdlgpnhkfdehaaGreatDoor.Tr
open Go.RowKit
open Go.Proofs.YtjdlgpnhkfdehaaGreatDoor.St
open Go.Proofs.YtjdlgpnhkfdehaaGreatDoor.Sh (Vars)
theorem treeR_yes (l : List ByteArray) (h : right l = true) : treeR l = tree l := if_pos h
theorem treeR_no (l : List ByteArray) (h : right l = false) : treeR l = ⟨#[]⟩ := if_neg (by rw [h]; decide)
theorem treeHash_impl (l : List ByteArray) (n : Nat) (a : Option Addr) (cap B : Nat) (w : World) (hln : l.length = n) (hcap : n ≤ cap) (hn : n ≤ 1048576) (hs : Strs w B a l) (hB : B ≤ w.heap.size) (hV : Vars w) :
    Calls Tryz.prog 74 #[.slice a n cap] w fun e w' => e = .returned (.string (treeR l)) ∧ Below w.heap.size w w' := by
  have HR := hideT (right_impl a cap l w B hs (by omega))
  rw [hln] at HR
  have HS := hideT hs
  have HV := hideT hV
  clear hs hV
  cases hr : right l with
  | false =>
    have HT := hideT (treeR_no l hr)
    rw [hr] at HR
    go_enter Tryz.func74, Tryz.ntmps74
    go_wp2_with fail
    refine HR.out.mono ?_
    rintro e w1 ⟨rfl, hw⟩
    subst w1
    go_wp2_with fail
    go_ret
    exact ⟨Nu.ret_strJ HT.out.symm, Below.refl _ _⟩
  | true =>
    have HT := hideT (treeR_yes l hr)
    have HY := hideT ((right_yes l).1 hr)
    rw [hr] at HR
    go_enter Tryz.func74, Tryz.ntmps74
    go_wp2_with fail
    refine HR.out.mono ?_
    rintro e w1 ⟨rfl, hw⟩
    subst w1
    go_wp2_with fail
    refine (tree_impl n n l a cap B _ (Nat.le_refl _) hln hcap (by have := HY.out.1; omega) HY.out.2 HS.out hB HV.out).mono ?_
    rintro e w2 ⟨rfl, hb2⟩
    go_wp2_with fail
    go_ret
    exact ⟨Nu.ret_strJ HT.out.symm, hb2⟩
theorem treeHash_spec (l : List ByteArray) (n : Nat) (a : Option Addr) (cap B : Nat) (w : World) (hln : l.length = n) (hcap : n ≤ cap) (hn : n ≤ 1048576) (hs : Strs w B a l) (hB : B ≤ w.heap.size) :
    Calls Tryz.prog 136 #[.slice a n cap] w fun e w' => e = .returned (.string (treeR l)) ∧ Below w.heap.size w w' := by
  have HR := hideT (right_spec a cap l w B hs (by omega))
  rw [hln] at HR
  have HS := hideT hs
  clear hs
  by_cases h400 : 400 < n
  · have HT := hideT (treeR_no l (right_long l (by omega)))
    go_enter Tryz.func136, Tryz.ntmps136
    go_wp2_with fail
    go_ret
    exact ⟨Nu.ret_strJ HT.out.symm, Below.refl _ _⟩
  · cases hr : right l with
    | false =>
      have HT := hideT (treeR_no l hr)
      rw [hr] at HR
      go_enter Tryz.func136, Tryz.ntmps136
      go_wp2_with fail
      refine HR.out.mono ?_
      rintro e w1 ⟨rfl, hw⟩
      subst w1
      go_wp2_with fail
      go_ret
      exact ⟨Nu.ret_strJ HT.out.symm, Below.refl _ _⟩
    | true =>
      have HT := hideT (treeR_yes l hr)
      have HY := hideT ((right_yes l).1 hr)
      rw [hr] at HR
      go_enter Tryz.func136, Tryz.ntmps136
      go_wp2_with fail
      refine HR.out.mono ?_
      rintro e w1 ⟨rfl, hw⟩
      subst w1
      go_wp2_with fail
      refine (tree_spec n n l a cap B _ (Nat.le_refl _) hln hcap (by have := HY.out.1; omega) HY.out.2 HS.out hB).mono ?_
      rintro e w2 ⟨rfl, hb2⟩
      go_wp2_with fail
      go_ret
      exact ⟨Nu.ret_strJ HT.out.symm, hb2⟩
end Go.Proofs.YtjdlgpnhkfdehaaGreatDoor.Tr


/- ListOf: what both sides answer. -/
namespace Go.Proofs.YtjdlgpnhkfdehaaGreatDoor.Ls
open Go.RowKit
open Go.Proofs.YtjdlgpnhkfdehaaGreatDoor.Pk (piecesR piecesR_length pieces_impl l06Pieces_any packB innerV blocks_size)
open Go.Proofs.YtjdlgpnhkfdehaaGreatDoor.Bk (fineB fine_any blocksR)
open Go.Proofs.YtjdlgpnhkfdehaaGreatDoor.Tr (treeR tree right right_yes treeR_yes tree_size treeHash_impl treeHash_spec)
open Go.Proofs.YtjdlgpnhkfdehaaGreatDoor.Sh (Vars)
open Go.Proofs.YtjdlgpnhkfdehaaGreatDoor.Se (sealV)
noncomputable def rootV (s : ByteArray) (size : Int) : ByteArray := treeR (piecesR s size)
noncomputable def ofV (s : ByteArray) (size : Int) : Value := if 8000 < s.size then oV 0 0 ⟨#[]⟩ 2 else if fineB s.size size = true then oV s.size size (rootV s size) 0 else oV 0 0 ⟨#[]⟩ 1
theorem pack_size (b : ByteArray) : (packB b).size ≤ 53 := by
  unfold packB
  split
  · decide
  · have h2 : (innerV b).size ≤ 49 := by
      unfold innerV
      split
      · omega
      · rw [Pk.plainV_size]; omega
    unfold sealV
    rw [if_pos (by omega), ByteArray.size_append, Se.fourS_size]
    omega
theorem pieces_right (s : ByteArray) (size : Int) : right (piecesR s size) = true := by
  refine (right_yes _).2 ⟨piecesR_length s size, fun j h => ?_⟩
  have hm : ∀ x ∈ piecesR s size, x.size ≤ 100 := fun x hx => by
    obtain ⟨b, _, hb⟩ := List.mem_map.1 hx
    rw [← hb]
    have := pack_size b
    omega
  exact hm _ (List.getElem_mem h)
theorem root_size (s : ByteArray) (size : Int) : (rootV s size).size = 32 := by
  unfold rootV
  rw [treeR_yes _ (pieces_right s size), tree_size]
theorem right_of_fine (s : ByteArray) (size : Int) : rightB s.size size (rootV s size) = fineB s.size size := by
  unfold rightB fineB
  have := root_size s size
  rw [decide_eq_decide]
  omega
theorem vars_keep {w w' : World} (h : Vars w) (hb : Below w.heap.size w w') : Vars w' := h.below hb h.two
set_option maxRecDepth 100000 in
set_option maxHeartbeats 2000000 in
theorem of_impl (s : ByteArray) (size : Int) (w : World) (hs : s.size ≤ 1048576) (hV : Vars w) :
    Calls Tryz.prog 23 #[.string s, .int .i64 size] w fun e w' => e = .returned (ofV s size) ∧ Below w.heap.size w w' := by
  obtain ⟨g, hg⟩ : ∃ g, g = w.heap.size := ⟨_, rfl⟩
  have HBE := hideL hg.symm
  have HR0 : Hid ((w.alloc (.cells #[.int .i64 0, .int .i64 0, .string ⟨#[]⟩, .int .i64 0] 37)).heap[g]? = some (.cells #[.int .i64 0, .int .i64 0, .string ⟨#[]⟩, .int .i64 0] 37 (0, 0))) := by rw [hg]; exact heap_alloc_new w _
  have HL0 : Hid (Below g w (w.alloc (.cells #[.int .i64 0, .int .i64 0, .string ⟨#[]⟩, .int .i64 0] 37))) := by rw [hg]; exact (Below.refl _ _).alloc (Nat.le_refl _) _
  have HV0 : Hid (Vars (w.alloc (.cells #[.int .i64 0, .int .i64 0, .string ⟨#[]⟩, .int .i64 0] 37))) := vars_keep hV ((Below.refl _ _).alloc (Nat.le_refl _) _)
  clear hV
  by_cases h8 : 8000 < s.size
  · have HF : Hid (ofV s size = oV 0 0 ⟨#[]⟩ 2) := if_pos h8
    rw [HF.out]
    clear hg
    go_enter Tryz.func23, Tryz.ntmps23
    go_wp2
    refine bodyPost_ret (v := oV 0 0 ⟨#[]⟩ 2) (by simp [results, oV, Tryz.results23, go_sem]) rfl ⟨rfl, ?_⟩
    exact (Below.refl _ _).alloc (Nat.le_refl _) _
  · have h8' : decide ((8000 : Int) < (s.size : Int)) = false := by simp; omega
    have HRF := hideL (right_of_fine s size)
    have HRZ := hideL (root_size s size)
    have HF : Hid (ofV s size = if fineB s.size size = true then oV s.size size (rootV s size) 0 else oV 0 0 ⟨#[]⟩ 1) := if_neg h8
    have HPI := hideL (fun W => pieces_impl s size W hs)
    have HPL := hideL (piecesR_length s size)
    have HRT : Hid (rootV s size = treeR (piecesR s size)) := rfl
    rw [HF.out]
    clear HF
    generalize rootV s size = R at HRF HRZ HRT ⊢
    generalize piecesR s size = l at HPI HPL HRT
    obtain ⟨ans, hans⟩ : ∃ x, x = if fineB s.size size = true then oV s.size size R 0 else oV 0 0 ⟨#[]⟩ 1 := ⟨_, rfl⟩
    rw [← hans]
    have HANS := hideL hans
    clear hans
    go_enter Tryz.func23, Tryz.ntmps23
    go_wp2_with fail
    rw [← hg]
    generalize hww : w.alloc (.cells #[.int .i64 0, .int .i64 0, .string ⟨#[]⟩, .int .i64 0] 37) = w0 at HR0 HL0 HV0 ⊢
    clear hww hg
    refine (HPI.out _).mono ?_
    rintro e w1 ⟨v, rfl, ho, hb⟩
    obtain ⟨a, cap, hv, hcap, hi⟩ := ho.strs
    obtain ⟨n, hn⟩ : ∃ n, n = l.length := ⟨_, rfl⟩
    rw [← hn] at hv hcap
    subst hv
    have HN := hideL hn
    have S1 := hideL hi
    have R1 := hideL (blkL HR0.out hb)
    have L1 := hideL (lowB HBE.out HL0.out hb)
    have V1 := hideL (vars_keep HV0.out hb)
    clear hn hi hb ho HR0 HL0 HV0
    go_wp2_with fail
    refine (treeHash_impl l n a cap w1.heap.size w1 HN.out.symm (by omega) (by have := HPL.out; have := HN.out; omega) S1.out (Nat.le_refl _) V1.out).mono ?_
    rw [← HRT.out]
    rintro e w2 ⟨rfl, hb⟩
    have R2 := hideL (blkL R1.out hb)
    have L2 := hideL (lowB HBE.out L1.out hb)
    clear hb R1 L1 V1 S1
    have HRI := hideL (fun W => right_impl s.size size R W)
    rw [HRF.out] at HRI
    unfold lV at HRI
    have R3 : Hid ((w2.alloc (.cells #[.int .i64 s.size, .int .i64 size, .string R] 35)).heap[g]? = some (.cells #[.int .i64 0, .int .i64 0, .string ⟨#[]⟩, .int .i64 0] 37 (0, 0))) := blk_alloc R2.out _
    have X3 : Hid ((w2.alloc (.cells #[.int .i64 s.size, .int .i64 size, .string R] 35)).heap[w2.heap.size]? = some (.cells #[.int .i64 s.size, .int .i64 size, .string R] 35 (0, 0))) := heap_alloc_new w2 _
    have L3 : Hid (Below g w (w2.alloc (.cells #[.int .i64 s.size, .int .i64 size, .string R] 35))) := lowB_alloc HBE.out L2.out _
    go_wp2_with fail
    generalize hww : w2.alloc (.cells #[.int .i64 s.size, .int .i64 size, .string R] 35) = w3 at R3 X3 L3 ⊢
    generalize w2.heap.size = gx at X3 ⊢
    clear hww R2 L2
    refine (HRI.out _).mono ?_
    rintro e w4 ⟨rfl, hb⟩
    have R4 := hideL (blkL R3.out hb)
    have X4 := hideL (blkL X3.out hb)
    have L4 := hideL (lowB HBE.out L3.out hb)
    clear hb R3 X3 L3 HRF HRI
    obtain ⟨c0, c1, c2, c3⟩ := cells4 R4.out
    obtain ⟨d0, d1, d2⟩ := cells3 X4.out
    have ff := fun o => frozen_of_row w4 g o _ _ R4.out
    cases hf : fineB s.size size with
    | false =>
      have HAN : Hid (ans = oV 0 0 ⟨#[]⟩ 1) := by rw [HANS.out, hf]; exact if_neg (by decide)
      clear hf HANS
      have s4 := set4_cells R4.out (.int .i64 0) (.int .i64 0) (.string ⟨#[]⟩) (.int .i64 1)
      go_wp2_with fail
      refine bodyPost_ret (v := oV 0 0 ⟨#[]⟩ 1) (by simp [results, oV, Tryz.results23, go_sem, s4.1, s4.2.1, s4.2.2.1, s4.2.2.2]) rfl ⟨by rw [HAN.out], ?_⟩
      rw [HBE.out]
      exact set4_low L4.out _ _ _ _
    | true =>
      have HAN : Hid (ans = oV s.size size R 0) := by rw [HANS.out, hf]; exact if_pos rfl
      clear hf HANS
      have s4 := set4_cells R4.out (.int .i64 s.size) (.int .i64 size) (.string R) (.int .i64 0)
      go_wp2_with fail
      refine bodyPost_ret (v := oV s.size size R 0) (by simp [results, oV, Tryz.results23, go_sem, s4.1, s4.2.1, s4.2.2.1, s4.2.2.2]) rfl ⟨by rw [HAN.out], ?_⟩
      rw [HBE.out]
      exact set4_low L4.out _ _ _ _
theorem treeOf_any (l : List ByteArray) (n : Nat) (a : Option Addr) (cap : Nat) (w : World) (hln : l.length = n) (hcap : n ≤ cap) (hn : n ≤ 1048576) (hs : St.Strs w w.heap.size a l) :
    Calls Tryz.prog 82 #[.slice a n cap] w fun e w' => e = .returned (.string (treeR l)) ∧ Below w.heap.size w w' := by
  have H := hideL (treeHash_spec l n a cap w.heap.size w hln hcap hn hs (Nat.le_refl _))
  generalize treeR l = R at H ⊢
  go_enter Tryz.func82, Tryz.ntmps82
  go_wp2_with fail
  refine H.out.mono ?_
  rintro e w1 ⟨rfl, hb⟩
  have HB := hideL hb
  clear hb
  go_wp2_with fail
  go_ret
  exact ⟨rfl, HB.out⟩
set_option maxRecDepth 100000 in
set_option maxHeartbeats 2000000 in
theorem of_spec (s : ByteArray) (size : Int) (w : World) (hs : s.size ≤ 1048576) :
    Calls Tryz.prog 30 #[.string s, .int .i64 size] w fun e w' => e = .returned (ofV s size) ∧ Below w.heap.size w w' := by
  obtain ⟨g, hg⟩ : ∃ g, g = w.heap.size := ⟨_, rfl⟩
  have HBE := hideL hg.symm
  have HR0 : Hid ((w.alloc (.cells #[.int .i64 0, .int .i64 0, .string ⟨#[]⟩, .int .i64 0] 37)).heap[g]? = some (.cells #[.int .i64 0, .int .i64 0, .string ⟨#[]⟩, .int .i64 0] 37 (0, 0))) := by rw [hg]; exact heap_alloc_new w _
  have HL0 : Hid (Below g w (w.alloc (.cells #[.int .i64 0, .int .i64 0, .string ⟨#[]⟩, .int .i64 0] 37))) := by rw [hg]; exact (Below.refl _ _).alloc (Nat.le_refl _) _
  by_cases h8 : 8000 < s.size
  · have HF : Hid (ofV s size = oV 0 0 ⟨#[]⟩ 2) := if_pos h8
    rw [HF.out]
    clear hg
    go_enter Tryz.func30, Tryz.ntmps30
    go_wp2
    refine bodyPost_ret (v := oV 0 0 ⟨#[]⟩ 2) (by simp [results, oV, Tryz.results30, go_sem]) rfl ⟨rfl, ?_⟩
    exact (Below.refl _ _).alloc (Nat.le_refl _) _
  · have h8' : decide ((8000 : Int) < (s.size : Int)) = false := by simp; omega
    have HFI := hideL (fun W => fine_any s size W hs)
    have HF : Hid (ofV s size = if fineB s.size size = true then oV s.size size (rootV s size) 0 else oV 0 0 ⟨#[]⟩ 1) := if_neg h8
    rw [HF.out]
    clear HF
    cases hf : fineB s.size size with
    | false =>
      rw [if_neg (by decide)]
      rw [hf] at HFI
      go_enter Tryz.func30, Tryz.ntmps30
      go_wp2_with fail
      rw [← hg]
      generalize hww : w.alloc (.cells #[.int .i64 0, .int .i64 0, .string ⟨#[]⟩, .int .i64 0] 37) = w0 at HR0 HL0 ⊢
      clear hww hg
      refine (HFI.out _).mono ?_
      rintro e w1 ⟨rfl, hw⟩
      subst w1
      obtain ⟨c0, c1, c2, c3⟩ := cells4 HR0.out
      have ff := fun o => frozen_of_row w0 g o _ _ HR0.out
      have s4 := set4_cells HR0.out (.int .i64 0) (.int .i64 0) (.string ⟨#[]⟩) (.int .i64 1)
      go_wp2_with fail
      refine bodyPost_ret (v := oV 0 0 ⟨#[]⟩ 1) (by simp [results, oV, Tryz.results30, go_sem, s4.1, s4.2.1, s4.2.2.1, s4.2.2.2]) rfl ⟨rfl, ?_⟩
      rw [HBE.out]
      exact set4_low HL0.out _ _ _ _
    | true =>
      rw [if_pos rfl]
      rw [hf] at HFI
      have hfi := of_decide_eq_true hf
      obtain ⟨k, hk⟩ := Int.eq_ofNat_of_zero_le (show 0 ≤ size by omega)
      subst hk
      have HPI := hideL (fun W => l06Pieces_any s k W hf)
      have HPL := hideL (piecesR_length s (k : Int))
      have HRT : Hid (rootV s (k : Int) = treeR (piecesR s (k : Int))) := rfl
      clear hf hfi
      generalize rootV s (k : Int) = R at HRT ⊢
      generalize piecesR s (k : Int) = l at HPI HPL HRT
      go_enter Tryz.func30, Tryz.ntmps30
      go_wp2_with fail
      rw [← hg]
      generalize hww : w.alloc (.cells #[.int .i64 0, .int .i64 0, .string ⟨#[]⟩, .int .i64 0] 37) = w0 at HR0 HL0 ⊢
      clear hww hg
      refine (HFI.out _).mono ?_
      rintro e w1 ⟨rfl, hw⟩
      subst w1
      go_wp2_with fail
      refine (HPI.out _).mono ?_
      rintro e w1 ⟨v, rfl, ho, hb⟩
      obtain ⟨a, cap, hv, hcap, hi⟩ := ho.strs
      obtain ⟨n, hn⟩ : ∃ n, n = l.length := ⟨_, rfl⟩
      rw [← hn] at hv hcap
      subst hv
      have HN := hideL hn
      have S1 := hideL hi
      have R1 := hideL (blkL HR0.out hb)
      have L1 := hideL (lowB HBE.out HL0.out hb)
      clear hn hi hb ho HR0 HL0
      go_wp2_with fail
      refine (treeOf_any l n a cap w1 HN.out.symm (by omega) (by have := HPL.out; have := HN.out; omega) S1.out).mono ?_
      rw [← HRT.out]
      rintro e w2 ⟨rfl, hb⟩
      have R2 := hideL (blkL R1.out hb)
      have L2 := hideL (lowB HBE.out L1.out hb)
      clear hb R1 L1 S1
      obtain ⟨c0, c1, c2, c3⟩ := cells4 R2.out
      have ff := fun o => frozen_of_row w2 g o _ _ R2.out
      have s4 := set4_cells R2.out (.int .i64 s.size) (.int .i64 (k : Nat)) (.string R) (.int .i64 0)
      go_wp2_with fail
      refine bodyPost_ret (v := oV s.size (k : Nat) R 0) (by simp [results, oV, Tryz.results30, go_sem, s4.1, s4.2.1, s4.2.2.1, s4.2.2.2]) rfl ⟨rfl, ?_⟩
      rw [HBE.out]
      exact set4_low L2.out _ _ _ _
theorem ofV_form (s : ByteArray) (size : Int) : ∃ z b r c, ofV s size = oV z b r c := by
  unfold ofV
  split
  · exact ⟨_, _, _, _, rfl⟩
  · split <;> exact ⟨_, _, _, _, rfl⟩
end Go.Proofs.YtjdlgpnhkfdehaaGreatDoor.Ls

