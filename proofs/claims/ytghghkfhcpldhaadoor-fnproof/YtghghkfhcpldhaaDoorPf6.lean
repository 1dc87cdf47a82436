/- Texts put together: PathPlain, TreeMath, LwTexts, PrfLaw. -/
import Derived.Test.YtghghkfhcpldhaaDoorPf0
import Derived.Test.YtghghkfhcpldhaaDoorPf1
import Derived.Test.YtghghkfhcpldhaaDoorPf3
import Derived.Test.YtghghkfhcpldhaaDoorPf4
import Derived.Test.YtghghkfhcpldhaaDoorStrBase
import Derived.BigRegion
import Derived.BigQuiet
import Derived.Deep.QuietTactic
import Derived.Test.YtghghkfhcpldhaaDoorPf2
import Derived.Test.YtghghkfhcpldhaaDoorPf5
import Derived.Deep.RegionWith
/- Plain mathematics of paths. -/
namespace Go.Proofs.YtghghkfhcpldhaaDoor.Tr

/-- the path of one of right entries -/
def path (l : List ByteArray) (i : Nat) : List ByteArray :=
  if _h : l.length ≤ 1 then []
  else if i < half l.length then path (l.take (half l.length)) i ++ [tree (l.drop (half l.length))]
  else path (l.drop (half l.length)) (i - half l.length) ++ [tree (l.take (half l.length))]
termination_by l.length
decreasing_by
  · have := half_lt l.length (by omega)
    simp
    omega
  · have := half_pos l.length
    simp
    omega
theorem path_one (l : List ByteArray) (i : Nat) (h : l.length ≤ 1) : path l i = [] := by rw [path, dif_pos h]
theorem path_left (l : List ByteArray) (i : Nat) (h : 2 ≤ l.length) (hi : i < half l.length) : path l i = path (l.take (half l.length)) i ++ [tree (l.drop (half l.length))] := by
  rw [path, dif_neg (by omega), if_pos hi]
theorem path_right (l : List ByteArray) (i : Nat) (h : 2 ≤ l.length) (hi : ¬ i < half l.length) : path l i = path (l.drop (half l.length)) (i - half l.length) ++ [tree (l.take (half l.length))] := by
  rw [path, dif_neg (by omega), if_neg hi]
theorem path_length : ∀ (m : Nat) (l : List ByteArray) (i : Nat), l.length ≤ m → (path l i).length ≤ l.length
  | 0, l, i, h => by
    rw [path_one l i (by omega)]
    simp
  | m + 1, l, i, h => by
    by_cases h1 : l.length ≤ 1
    · rw [path_one l i h1]
      simp
    · have h2 := half_lt l.length (by omega)
      have h3 := half_pos l.length
      by_cases hi : i < half l.length
      · rw [path_left l i (by omega) hi]
        have := path_length m (l.take (half l.length)) i (by simp; omega)
        simp at this ⊢
        omega
      · rw [path_right l i (by omega) hi]
        have := path_length m (l.drop (half l.length)) (i - half l.length) (by simp; omega)
        simp at this ⊢
        omega
def pathR (l : List ByteArray) (i : Int) : List ByteArray := if right l = true ∧ 0 ≤ i ∧ i < l.length then path l i.toNat else []
end Go.Proofs.YtghghkfhcpldhaaDoor.Tr

/- Plain mathematics: a path tells its leaf to be in the tree, a proof tells the first ones to be the beginning of all. -/
namespace Go.Proofs.YtghghkfhcpldhaaDoor.Tr
open Go.Proofs.YtghghkfhcpldhaaDoor.Sh (nodeV leafV)

theorem incl_path : ∀ (f : Nat) (l : List ByteArray) (i n : Nat) (x : ByteArray), n = l.length → l[i]? = some x → n ≤ f → climbR f n i (path l i) (leafV x) = some (tree l)
  | 0, l, i, n, x, hn, hx, hf => by
    obtain ⟨h, _⟩ := List.getElem?_eq_some_iff.1 hx
    omega
  | f + 1, l, i, n, x, hn, hx, hf => by
    obtain ⟨h, he⟩ := List.getElem?_eq_some_iff.1 hx
    rw [climbR]
    by_cases h1 : l.length ≤ 1
    · have h2 : i = 0 := by omega
      subst h2
      rw [if_pos (by omega), path_one l 0 h1, if_pos rfl, tree_one l (by omega), he]
    · have k1 := half_lt l.length (by omega)
      have k2 := half_pos l.length
      rw [if_neg (by omega), tree_two l (by omega)]
      subst hn
      by_cases hi : i < half l.length
      · rw [path_left l i (by omega) hi, List.getLast?_concat, List.dropLast_concat]
        have ih := incl_path f (l.take (half l.length)) i (half l.length) x (by rw [List.length_take]; omega) (by rw [List.getElem?_take_of_lt hi]; exact hx) (by omega)
        simp only [if_pos hi, ih, Option.map_some]
      · rw [path_right l i (by omega) hi, List.getLast?_concat, List.dropLast_concat]
        have ih := incl_path f (l.drop (half l.length)) (i - half l.length) (l.length - half l.length) x (by rw [List.length_drop]) (by rw [List.getElem?_drop, show half l.length + (i - half l.length) = i by omega]; exact hx) (by omega)
        simp only [if_neg hi, ih, Option.map_some]
theorem half_pow (n : Nat) : ∃ t, half n = 2 ^ t := ⟨_, rfl⟩
theorem half_same (old n : Nat) (hn : 2 ≤ n) (h : old < n) (hk : ¬ old ≤ half n) : half old = half n := by
  have h2 := half_two n hn
  obtain ⟨t, ht⟩ := half_pow n
  rw [ht] at hk h2 ⊢
  exact half_of old t (by omega) (by omega)
theorem cons_proof : ∀ (f : Nat) (l : List ByteArray) (old : Nat) (w : Bool) (was : ByteArray), l.length ≤ f → 1 ≤ old → (old < l.length ∨ (old = l.length ∧ od old = 1)) → (w = true → was = tree (l.take old)) →
    conP w old l.length (proof l old w) was = some (tree (l.take old), tree l)
  | 0, l, old, w, was, hf, h1, ho, hw => by omega
  | f + 1, l, old, w, was, hf, h1, ho, hw => by
    rcases ho with ho | ⟨ho, hod⟩
    · have k1 := half_lt l.length (by omega)
      have k2 := half_pos l.length
      rw [tree_two l (by omega)]
      by_cases hk : old ≤ half l.length
      · rw [proof_left l old w (by omega) ho hk, conP_left w old l.length _ _ was h1 ho hk]
        have hlen : (l.take (half l.length)).length = half l.length := by rw [List.length_take]; omega
        have htk : (l.take (half l.length)).take old = l.take old := by rw [List.take_take, Nat.min_eq_left hk]
        have hcase : old < (l.take (half l.length)).length ∨ (old = (l.take (half l.length)).length ∧ od old = 1) := by
          rw [hlen]
          rcases Nat.lt_or_ge old (half l.length) with h | h
          · exact .inl h
          · refine .inr ⟨by omega, ?_⟩
            obtain ⟨t, ht⟩ := half_pow l.length
            rw [show old = 2 ^ t by omega]
            exact od_pow t
        have ih := cons_proof f (l.take (half l.length)) old w was (by omega) h1 hcase (by rw [htk]; exact hw)
        rw [hlen, htk] at ih
        rw [ih]
        rfl
      · rw [proof_right l old w (by omega) ho hk, conP_right w old l.length _ _ was ho hk]
        have hlen : (l.drop (half l.length)).length = l.length - half l.length := List.length_drop ..
        have ih := cons_proof f (l.drop (half l.length)) (old - half l.length) false was (by omega) (by omega) (.inl (by omega)) (by intro h; cases h)
        rw [hlen] at ih
        rw [ih]
        have hh := half_same old l.length (by omega) ho hk
        have hl2 : (l.take old).length = old := by rw [List.length_take]; omega
        have ht := tree_two (l.take old) (by omega)
        rw [hl2, hh, List.take_take, Nat.min_eq_left (by omega), List.drop_take] at ht
        rw [ht]
        rfl
    · have htk : l.take old = l := by rw [ho, List.take_length]
      rw [htk] at hw ⊢
      cases w with
      | true =>
        rw [proof_whole l old ho.symm, ← ho, conP_whole old [] was h1 hod, if_pos rfl, hw rfl]
      | false =>
        rw [proof_part l old ho.symm, ← ho, conP_part old [tree l] was h1 hod]
        rfl
end Go.Proofs.YtghghkfhcpldhaaDoor.Tr

/- The laws' lwTexts: two rows of the same texts are alike. -/
namespace Go.Proofs.YtghghkfhcpldhaaDoor.St
open Go.RowKit

set_option maxRecDepth 100000 in
set_option maxHeartbeats 1000000 in
theorem texts_any (a b : Option Addr) (cap cap' : Nat) (l : List ByteArray) (w : World) (B : Nat) (ha : Strs w B a l) (hb : Strs w B b l) (hn : l.length ≤ 1048576) :
    Calls Tryd.prog 6 #[.slice a l.length cap, .slice b l.length cap'] w fun e w' => e = .returned (.bool true) ∧ Below w.heap.size w w' := by
  have HA := hideT ha
  have HB := hideT hb
  clear ha hb
  obtain ⟨n, hln⟩ : ∃ n, n = l.length := ⟨_, rfl⟩
  have HLN := hideT hln
  rw [← hln] at hn ⊢
  clear hln
  go_enter Tryd.func6, Tryd.ntmps6
  go_wp2_with fail
  go_loopw [5] (fun i wr => ∃ k : Nat, i = .int .i64 k ∧ k ≤ n ∧ (∀ p : Addr, wr.cell? p = w.cell? p) ∧ Below w.heap.size w wr) (fun i _ => n - (intOf i).toNat)
  case atStart => exact ⟨0, rfl, by omega, fun _ => rfl, Below.refl _ _⟩
  case round =>
    obtain ⟨k, rfl, hk, hcell, hbel⟩ := hrel
    have HC := hideT hcell
    have GB := hideT hbel
    by_cases hlt : k < n
    · have hkl : k < l.length := by rw [← HLN.out]; exact hlt
      obtain ⟨b1, off1, rfl, _, hc1⟩ := HA.out.some (by omega)
      obtain ⟨b2, off2, rfl, _, hc2⟩ := HB.out.some (by omega)
      have c1 := (hcell _).trans (hc1 k hkl)
      have c2 := (hcell _).trans (hc2 k hkl)
      obtain ⟨s, hs⟩ : ∃ s, s = l[k] := ⟨_, rfl⟩
      rw [← hs] at c1 c2
      clear hc1 hc2 hcell hbel hs
      go_wp2_with fail
      go_region
      all_goals (try go_wp2_with fail)
      all_goals go_roundw
      case rel => exact ⟨k + 1, by go_num, by omega, fun p => HC.out p, GB.out.drew⟩
      case measure => simp [intOf]; omega
    · clear hcell hbel
      go_wp2_with fail
      go_ret
      exact ⟨rfl, GB.out⟩
end Go.Proofs.YtghghkfhcpldhaaDoor.St

/- The walk of the law on proofs: the first of drawn right entries, however many, are told by their proof to be the beginning of all. -/
namespace Go.Proofs.YtghghkfhcpldhaaDoor.Tr
open Go.Proofs.YtghghkfhcpldhaaDoor.St

theorem right_take (l : List ByteArray) (m : Nat) (h : right l = true) : right (l.take m) = true := by
  obtain ⟨h1, h2⟩ := (right_yes l).1 h
  refine (right_yes _).2 ⟨by rw [List.length_take]; omega, fun j hj => ?_⟩
  rw [List.getElem_take]
  exact h2 j _
/-- a proof is told -/
theorem proof_told (l : List ByteArray) (m : Nat) (h : right l = true) (h1 : 1 ≤ m) (hm : m ≤ l.length) (hl : l.length ≤ 63) : consB m l.length (proofR l m) (treeR (l.take m)) (treeR l) = true := by
  have hp := proofR_yes l m h h1 hm
  have hlen := proof_length _ l m true (Nat.le_refl _)
  have hw : (decide ((proofR l m).length ≤ 64) && wide (proofR l m)) = true := by
    rw [hp, decide_eq_true (by omega), Bool.true_and]
    exact (wide_yes _).2 fun j hj => Dr.proof_all _ l m true (Nat.le_refl _) _ (List.getElem_mem hj)
  rw [consB_in m l.length (proofR l m) _ _ h1 hm (by rw [treeR_yes _ (right_take l m h)]; exact tree_size _) (by rw [treeR_yes l h]; exact tree_size _) hw]
  rw [treeR_yes _ (right_take l m h), treeR_yes l h, hp]
  unfold consV
  by_cases e : m = l.length
  · rw [if_pos e, proof_whole l m e.symm, e, List.take_length]
    simp
  · rw [if_neg e, cons_proof l.length l m true (tree (l.take m)) (Nat.le_refl _) h1 (Or.inl (by omega)) (fun _ => rfl)]
    simp
end Go.Proofs.YtghghkfhcpldhaaDoor.Tr

namespace Go.Proofs.YtghghkfhcpldhaaDoor.fnProof
open Go.RowKit
open Go.Proofs.YtghghkfhcpldhaaDoor.Sh (Vars)
open Go.Proofs.YtghghkfhcpldhaaDoor.Dr
open Go.Proofs.YtghghkfhcpldhaaDoor.St (Strs OwnS)
open Go.Proofs.YtghghkfhcpldhaaDoor.Tr (treeR proofR)

theorem below2 {w w1 w2 : World} (h : Below w.heap.size w w1) (h2 : Below w1.heap.size w1 w2) : Below w.heap.size w w2 := h.trans (h2.mono h.size)
theorem own_at {w : World} {base : Nat} {x : Option Addr} {c : Nat} {l : List ByteArray} (h : OwnS w base (.slice x l.length c) l) : Strs w w.heap.size x l := by
  obtain ⟨a, c', hv, _, hs⟩ := h.strs
  have : x = a := by simp at hv; exact hv.1
  rw [this]
  exact hs
theorem nonempty (s : ByteArray) (h : 1 ≤ s.size) : s.toList.isEmpty = false := by
  rw [ByteArray.toList_eq]
  cases hd : s.data.toList with
  | nil => exfalso; have := congrArg List.length hd; rw [Array.length_toList] at this; exact absurd (show s.size = 0 from this) (by omega)
  | cons _ _ => rfl

set_option maxRecDepth 100000 in
set_option maxHeartbeats 8000000 in
theorem walk_in (w : World) (a0 : Option Addr) (len0 cap0 : Nat) (a1 : Option Addr) (len1 cap1 : Nat) (r0 : Row w w.heap.size a0 len0) (r1 : Row w w.heap.size a1 len1) (hl0 : len0 ≤ 1048576) (hl1 : len1 ≤ 1048576) (hV : Vars w) :
    Calls Tryd.prog 3 #[.slice a0 len0 cap0, .slice a1 len1 cap1] w fun e w' => e = .returned (.bool true) ∧ Below w.heap.size w w' := by
  have R0 := hideD r0
  have R1 := hideD r1
  have HV := hideD hV
  have h2 := hV.two
  clear r0 r1 hV
  go_enter Tryd.func3, Tryd.ntmps3
  go_wp2_with fail
  refine (drawProof_any a0 len0 cap0 _ hl0 R0.out).mono ?_
  rintro e w1 ⟨x, c, l, i, rfl, ho1, hn, hc, _, _, _, hb1⟩
  have S1 := hideD (own_at ho1)
  have B1 := hideD hb1
  clear ho1 hb1
  have HTE := hideD (Tr.treeR_yes l)
  have HTN := hideD (Tr.treeR_no l)
  have HTOLD := hideD (fun (m : Nat) h h1 hm => Tr.proof_told l m h h1 hm (by omega))
  have HPI := hideD (fun (j : Int) (W : World) (hW : Below w1.heap.size w1 W) hV => Tr.proofOf_impl l l.length j x c w1.heap.size W rfl hc (by omega) (S1.out.below hW) hW.size hV)
  have HPS := hideD (fun (j : Int) (W : World) (hW : Below w1.heap.size w1 W) => Tr.proofOf_spec l l.length j x c w1.heap.size W rfl hc (by omega) (S1.out.below hW) hW.size)
  have HTS := hideD (fun (W : World) (hW : Below w1.heap.size w1 W) => Tr.treeHash_spec l l.length x c w1.heap.size W rfl hc (by omega) (S1.out.below hW) hW.size)
  have HTX : Hid (∀ (W : World) (u v : Value) (q : List ByteArray) (b b' : Nat), OwnS W b u q → OwnS W b' v q → q.length ≤ 1048576 → Calls Tryd.prog 6 #[u, v] W fun e w' => e = .returned (.bool true) ∧ Below W.heap.size W w') := fun W u v q b b' h h' hq => by
    obtain ⟨y, d, rfl, _, hy⟩ := h.strs
    obtain ⟨y', d', rfl, _, hy'⟩ := h'.strs
    exact St.texts_any y y' d d' q W W.heap.size hy hy' hq
  have HPQ := hideD (Tr.proofR_length l i)
  have HTM := hideD (fun (m : Nat) (W : World) (hm1 : 1 ≤ m) (hm : m ≤ l.length) (hW : Below w1.heap.size w1 W) => by
    obtain ⟨b, off, he, hlt, hcell⟩ := S1.out.some (by omega)
    have := Tr.treeHash_spec (l.take m) m x c w1.heap.size W (by rw [List.length_take]; omega) (by omega) (by omega) (((show Strs w1 w1.heap.size x (l.take m) by rw [he]; exact Strs.take hlt hcell)).below hW) hW.size
    exact this)
  have HX : Hid (0 < l.length → ∃ b off, x = some ⟨b, off, none⟩) := fun h => by
    obtain ⟨b, off, he, _, _⟩ := S1.out.some h
    exact ⟨b, off, he⟩
  generalize l.length = n at hn hc HPI HPS HTS HTOLD HTM HX ⊢
  obtain ⟨rt, hrt⟩ : ∃ rt, rt = treeR l := ⟨_, rfl⟩
  have HRT : Hid (rt.toList.isEmpty = true ∨ (rt.toList.isEmpty = false ∧ Tr.right l = true)) := by
    unfold Hid
    cases hr : Tr.right l with
    | false =>
      refine Or.inl ?_
      rw [hrt, HTN.out hr, ByteArray.toList_eq]
      rfl
    | true =>
      refine Or.inr ⟨?_, rfl⟩
      rw [hrt, HTE.out hr]
      exact nonempty _ (by rw [Tr.tree_size]; decide)
  rw [← hrt] at HTS HTOLD
  clear hrt HTE HTN
  go_wp2_with fail
  refine (HPI.out i w1 (Below.refl _ _) (HV.out.below B1.out h2)).mono ?_
  rintro e w2 ⟨v2, rfl, ho2, hb2⟩
  have O2 := hideD ho2
  have B2 := hideD hb2
  clear ho2 hb2
  go_wp2_with fail
  refine (HPS.out i w2 B2.out).mono ?_
  rintro e w3 ⟨v3, rfl, ho3, hb3⟩
  have O2b := hideD (O2.out.below hb3)
  have O3 := hideD ho3
  have B3 := hideD (below2 B2.out hb3)
  clear ho3 hb3
  go_wp2_with fail
  refine (HTX.out w3 v2 v3 _ _ _ O2b.out O3.out (by have := HPQ.out; omega)).mono ?_
  rintro e w4 ⟨rfl, hb4⟩
  have B4 := hideD (below2 B3.out hb4)
  clear hb4 O2 O2b O3
  go_wp2_with fail
  refine (HTS.out w4 B4.out).mono ?_
  rintro e w5 ⟨rfl, hb5⟩
  have B5 := hideD (below2 B4.out hb5)
  clear hb5
  go_wp2_with fail
  go_loopw [8] (fun iv wr => ∃ m : Nat, iv = .int .i64 m ∧ 1 ≤ m ∧ m ≤ n + 1 ∧ Below w1.heap.size w1 wr) (fun iv _ => n + 1 - (intOf iv).toNat)
  case atStart => exact ⟨1, rfl, Nat.le_refl _, by omega, B5.out⟩
  case round =>
    obtain ⟨m, rfl, hm1, hm, hbw⟩ := hrel
    have BW := hideD hbw
    have GW := hideD (below2 B1.out hbw)
    clear hbw
    by_cases hle : m ≤ n
    · rcases HRT.out with hem | ⟨hem, hrr⟩
      · go_wp2_with fail
        refine (drawCons_any a1 len1 cap1 _ hl1 ((Dr.Row.below R1.out GW.out).mono GW.out.size)).mono ?_
        rintro e w8 ⟨m8, n8, b8, off8, d8, q8, was8, root8, rfl, hn8, hp8, hq8, hd8, hb8⟩
        have P8 := hideD hp8
        have B8 := hideD (below2 GW.out hb8)
        have z8 := hb8.size
        clear hp8 hb8
        have HCI := hideD (Tr.cons_impl m8 n8 q8 was8 root8 (some ⟨b8, off8, none⟩) d8 w8.heap.size w8 hn8 (by omega) hd8 P8.out.strs (Nat.le_refl _) (HV.out.below B8.out h2))
        have HCS := hideD (fun (W : World) (hW : Below w8.heap.size w8 W) => Tr.cons_spec m8 n8 q8 was8 root8 b8 off8 d8 w8.heap.size W hn8 (by omega) P8.out.1 (fun j hj => (hW.cell (p := ⟨b8, off8 + j, none⟩) P8.out.1).trans (P8.out.2 j hj)) hW.size)
        generalize Tr.consB m8 n8 q8 was8 root8 = cb at HCI HCS
        generalize q8.length = qn at hq8 hd8 HCI HCS ⊢
        go_wp2_with fail
        refine HCI.out.mono ?_
        rintro e w9 ⟨rfl, hb9⟩
        have B9 := hideD hb9
        clear hb9
        go_wp2_with fail
        refine (HCS.out w9 B9.out).mono ?_
        rintro e w10 ⟨rfl, hb10⟩
        have B10 := hideD (below2 (below2 B8.out B9.out) hb10)
        clear hb10
        cases cb <;> (go_wp2_with fail; go_ret; exact ⟨rfl, B10.out⟩)
      · have HTL := hideD (HTOLD.out m hrr hm1 hle)
        obtain ⟨b, off, rfl⟩ := HX.out (by omega)
        have HT2 := hideD (fun W hW => HTM.out m W hm1 hle hW)
        generalize treeR (l.take m) = was at HT2 HTL
        have HPI2 := hideD (fun W hW hV => HPI.out m W hW hV)
        have HPL := hideD (Tr.proofR_length l m)
        generalize proofR l m = pf at HPI2 HTL HPL
        have g1 : (m : Int) ≤ c := by omega
        clear hrr
        go_wp2_with fail
        go_region_with (first | (go_at_call 7; (with_reducible refine (HPI2.out _ ?_ ?_).mono ?_); (· exact BW.out.drew); (· exact (HV.out.below GW.out.drew h2)); rintro e w6 ⟨v6, rfl, ho6, hb6⟩; obtain ⟨y6, d6, rfl, hd6, hs6⟩ := ho6.strs; have S6 := hideD hs6; have B6 := hideD (show Below w1.heap.size w1 w6 from BW.out.trans ((show Below wr.heap.size wr w6 from ⟨hb6.os, hb6.tape, hb6.output, hb6.size, hb6.block⟩).mono BW.out.size)); clear ho6 hb6 hs6) | (go_at_call 9; (with_reducible refine (HT2.out w6 B6.out).mono ?_); rintro e w7 ⟨rfl, hb7⟩; have S7 := hideD ((S6.out.below hb7).mono hb7.size); have B7 := hideD (below2 B6.out hb7); clear hb7) | (go_at_call 10; (with_reducible refine (Tr.cons_impl m n pf was rt y6 d6 w7.heap.size w7 (by omega) (by have := HPL.out; omega) hd6 S7.out (Nat.le_refl _) (HV.out.below (below2 B1.out B7.out) h2)).mono ?_); rw [HTL.out]; rintro e w8 ⟨rfl, hb8⟩; have B8 := hideD (below2 B7.out hb8); clear hb8))
        all_goals (try go_wp2_with fail)
        all_goals
          go_roundw
          case rel => exact ⟨m + 1, by go_num, by omega, by omega, B8.out⟩
          case measure => simp [intOf]; omega
    · go_wp2_with fail
      refine (drawCons_any a1 len1 cap1 _ hl1 ((Dr.Row.below R1.out GW.out).mono GW.out.size)).mono ?_
      rintro e w8 ⟨m8, n8, b8, off8, d8, q8, was8, root8, rfl, hn8, hp8, hq8, hd8, hb8⟩
      have P8 := hideD hp8
      have B8 := hideD (below2 GW.out hb8)
      have z8 := hb8.size
      clear hp8 hb8
      have HCI := hideD (Tr.cons_impl m8 n8 q8 was8 root8 (some ⟨b8, off8, none⟩) d8 w8.heap.size w8 hn8 (by omega) hd8 P8.out.strs (Nat.le_refl _) (HV.out.below B8.out h2))
      have HCS := hideD (fun (W : World) (hW : Below w8.heap.size w8 W) => Tr.cons_spec m8 n8 q8 was8 root8 b8 off8 d8 w8.heap.size W hn8 (by omega) P8.out.1 (fun j hj => (hW.cell (p := ⟨b8, off8 + j, none⟩) P8.out.1).trans (P8.out.2 j hj)) hW.size)
      generalize Tr.consB m8 n8 q8 was8 root8 = cb at HCI HCS
      generalize q8.length = qn at hq8 hd8 HCI HCS ⊢
      go_wp2_with fail
      refine HCI.out.mono ?_
      rintro e w9 ⟨rfl, hb9⟩
      have B9 := hideD hb9
      clear hb9
      go_wp2_with fail
      refine (HCS.out w9 B9.out).mono ?_
      rintro e w10 ⟨rfl, hb10⟩
      have B10 := hideD (below2 (below2 B8.out B9.out) hb10)
      clear hb10
      cases cb <;> (go_wp2_with fail; go_ret; exact ⟨rfl, B10.out⟩)

theorem walk (a0 : Option Addr) (len0 cap0 : Nat) (z0 : List Int) {w : World} (w0 : IsRow .u8 w a0 len0 cap0 z0) (a1 : Option Addr) (len1 cap1 : Nat) (z1 : List Int) (w1 : IsRow .u8 w a1 len1 cap1 z1) (hV : Vars w) :
    Calls Tryd.prog 3 #[.slice a0 len0 cap0, .slice a1 len1 cap1] w fun e w' => e = .returned (.bool true) ∧ Below w.heap.size w w' := by
  by_cases h0 : len0 ≤ 1048576
  · by_cases h1 : len1 ≤ 1048576
    · exact walk_in w a0 len0 cap0 a1 len1 cap1 (row_of w0) (row_of w1) h0 h1 hV
    · clear w0 w1 hV
      have g0 : (len0 : Int) ≤ 1048576 := by omega
      have g1 : (1048576 : Int) < len1 := by omega
      go_enter Tryd.func3, Tryd.ntmps3
      go_wp2
      go_ret
      exact ⟨rfl, Below.refl _ _⟩
  · clear w0 w1 hV
    have g0 : (1048576 : Int) < len0 := by omega
    go_enter Tryd.func3, Tryd.ntmps3
    go_wp2
    go_ret
    exact ⟨rfl, Below.refl _ _⟩
end Go.Proofs.YtghghkfhcpldhaaDoor.fnProof
