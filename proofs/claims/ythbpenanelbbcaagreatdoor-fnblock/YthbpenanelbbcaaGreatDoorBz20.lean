/- Texts put together: HuLens, HuSpec, HuKraft, PkJoin, CodesPlain, PutPlain, PackPlain. -/
import Derived.Test.YthbpenanelbbcaaGreatDoorBz19
import Derived.Test.YthbpenanelbbcaaGreatDoorBz11
import Derived.Test.YthbpenanelbbcaaGreatDoorBz16
import Derived.Test.YthbpenanelbbcaaGreatDoorBz15
/- The walk of l04Lengths. -/
namespace Go.Proofs.YthbpenanelbbcaaGreatDoor.Hf
open Go.RowKit
open Go.Proofs.YthbpenanelbbcaaGreatDoor.In (IsI irow Ints made_ints)
open Go.Proofs.YthbpenanelbbcaaGreatDoor.Ap (Own0 wpList_append_own0k)
def mxN (d : List Nat) : Nat → Nat
 | 0 => 0
 | j + 1 => max (mxN d j) (d.getD j 0)
theorem mxN_le (d : List Nat) (b : Nat) : ∀ i, mxN d i ≤ b ↔ ∀ j, j < i → d.getD j 0 ≤ b
 | 0 => ⟨fun _ j h => by omega, fun _ => Nat.zero_le _⟩
 | i + 1 => by
  have ih := mxN_le d b i
  rw [mxN]
  constructor
  ·intro h j hj
   by_cases e : j = i
   ·subst e
    omega
   ·exact ih.1 (by omega) j (by omega)
  ·intro h
   have h1 := ih.2 fun j hj => h j (by omega)
   have h2 := h i (by omega)
   omega
theorem okay_mx (d : List Nat) : okay d = decide (mxN d d.length ≤ 12) := by
 unfold okay
 by_cases h : mxN d d.length ≤ 12
 ·rw [decide_eq_true h, List.all_eq_true]
  intro x hx
  obtain ⟨j, hj, rfl⟩ := List.getElem_of_mem hx
  have := (mxN_le d 12 d.length).1 h j hj
  rw [List.getD_eq_getElem?_getD, List.getElem?_eq_getElem hj] at this
  exact decide_eq_true this
 ·rw [decide_eq_false h, Bool.eq_false_iff]
  intro hall
  rw [List.all_eq_true] at hall
  refine h ((mxN_le d 12 d.length).2 fun j hj => ?_)
  rw [List.getD_eq_getElem?_getD, List.getElem?_eq_getElem hj]
  exact of_decide_eq_true (hall _ (List.getElem_mem hj))
theorem max_any (p q : Nat) (w : World) : Calls Tryz.prog 151 #[.int .i64 p, .int .i64 q] w fun e w' => e = .returned (.int .i64 (max p q : Nat)) ∧ w' = w := by
 by_cases h : q < p
 ·have HE : Hid (max p q = p) := by unfold Hid; omega
  rw [HE.out]
  have h' : (q : Int) < p := by omega
  go_enter Tryz.func151, Tryz.ntmps151
  go_wp2_with fail
  go_ret
  exact ⟨rfl, rfl⟩
 ·have HE : Hid (max p q = q) := by unfold Hid; omega
  rw [HE.out]
  have h' : decide ((q : Int) < p) = false := by simp; omega
  go_enter Tryz.func151, Tryz.ntmps151
  go_wp2_with fail
  go_ret
  exact ⟨rfl, rfl⟩
theorem own0_slice {W : World} {e : TypeId} {base size k : Nat} {v : Value} {xs : List Value} (h : Own0 W base e size v k xs) : ∃ x q, v = .slice x k q := by
 rcases h with ⟨b, rfl, rfl, _⟩ | ⟨_, h⟩
 ·exact ⟨_, _, rfl⟩
 ·rcases h with ⟨h, h0⟩ | ⟨g, q, _, hv, _⟩
  ·exact ⟨none, 0, by rw [h, h0]⟩
  ·exact ⟨_, q, hv⟩
theorem own0_own {W : World} {e : TypeId} {base : Nat} {v : Value} {m : List MT} (h : Own0 W base e 2 v m.length (cells m)) (h0 : 0 < m.length) : OwnT W e base v m := by
 rcases h with ⟨b, _, h, _⟩ | h
 ·omega
 ·exact h
theorem join_ne (m : List MT) (h2 : 2 ≤ (mt m).length) (hne : ∀ z ∈ m, 0 < z.1.2.length) (t : Tree) (ht : t ∈ join (mt m)) : 0 < t.2.length := by
 have hall : ∀ u ∈ mt m, 0 < u.2.length := by
  intro u hu
  obtain ⟨z, hz, rfl⟩ := List.mem_map.1 hu
  exact hne z hz
 have hp := two_perm (mt m) h2
 rcases List.mem_cons.1 ((join_perm (mt m)).mem_iff.1 ht) with rfl | hr
 ·have := hall (first (mt m)) (hp.mem_iff.2 (List.mem_cons_self ..))
  unfold both
  rw [List.length_append]
  omega
 ·exact hall t (hp.mem_iff.2 (List.mem_cons_of_mem _ (List.mem_cons_of_mem _ hr)))
structure LpS (base gl n S : Nat) (w : World) (wr : World) (v : Value) (m : List MT) (d : List Nat) : Prop where
 own : Own0 wr base 175 2 v m.length (cells m)
 sym : Syms wr m
 len : IsI wr gl 2 (up d)
 inv : Inv (mt m) d S
 few : ns (mt m) ≤ n
 dn : d.length = n
 ne : ∀ z ∈ m, 0 < z.1.2.length
 low : Below w.heap.size w wr
 lo : w.heap.size ≤ gl
 hi : gl < base
set_option maxRecDepth 100000 in
set_option maxHeartbeats 1000000 in
theorem lensS_any (a : Option Addr) (cap n : Nat) (c : List Nat) (w : World) (h : Ints w w.heap.size a (up c)) (hn : c.length = n) (h257 : n ≤ 257) (hm : ∀ x ∈ c, x ≤ 10000) :
  Calls Tryz.prog 128 #[.slice a n cap] w fun e w' => e = .returned (.tuple #[.slice (some ⟨w.heap.size, 0, none⟩) n n, .int .i64 (mxN (depths c) n : Nat)]) ∧ IsI w' w.heap.size 2 (up (depths c)) ∧ Below w.heap.size w w' := by
 obtain ⟨i0, hi, hz0, hz1, hz2⟩ := info_parts In.Tryz.infoI2
 obtain ⟨j0, hji, hj0, hj1, hj2⟩ := info_parts Tryz.infoTreeS
 have HN := hideH hn
 have HS := hideH h
 have HSUM := hideH (sum_all c (by omega) hm)
 have HINV := hideH (trees_inv c n (by omega))
 have HNS := hideH (ns_trees c n)
 have HDE : Hid (depths c = if (trees c n).length = 1 then (zeros n).set ((at0 (trees c n) 0).2.getD 0 0) 1 else run (trees c n).length (trees c n) (zeros n)) := by
  unfold Hid
  rw [← hn]
  rfl
 have HTK : Hid ((c.take n).sum = c.sum) := by
  unfold Hid
  rw [← hn, List.take_length]
 clear hn h hm
 go_enter Tryz.func128, Tryz.ntmps128
 go_wp2_with (at_make; refine wpList_make_full _ rfl (.tmp 10) (.tmp 10) 59 rfl w.heap.size 2 i0 (.int .i64 0) 1 Tryz.underlying59 hi hz0 hz1 .i64 .i64 _ _ n rfl rfl (by omega) (by omega) (by rw [hz2]; omega) (by unfold maxLen; omega) (Nat.le_refl _) ?_; intro w1 hown hgrow; have HI1 := hideH (made_ints hown); have HB1 := hideH ((Below.refl w.heap.size w).grown hgrow (Nat.le_refl _) (by simp)); have hz1w := (made_ints hown).lt; clear hown hgrow)
 have HS1 := hideH (((HS.out.below HB1.out).mono HB1.out.size))
 clear HS
 go_loopw [6, 5] (fun iv tv wr => ∃ (j : Nat) (m : List MT), iv = .int .i64 j ∧ j ≤ n ∧ mt m = trees c j ∧ Own0 wr w1.heap.size 175 2 tv m.length (cells m) ∧ Syms wr m ∧ Below w1.heap.size w1 wr) (fun iv _ _ => n - (intOf iv).toNat)
 case atStart => exact ⟨0, [], rfl, Nat.zero_le _, rfl, .inl ⟨_, rfl, rfl, rfl⟩, fun x hx => absurd hx (List.not_mem_nil), (Below.refl _ _).alloc (Nat.le_refl _) _⟩
 case round =>
  obtain ⟨j, m, rfl, hj, hmt, ho, hy, hbw⟩ := hrel
  have HM := hideH hmt
  have HO := hideH ho
  have HY := hideH hy
  have HBW := hideH hbw
  have hwz := hbw.size
  have hml : m.length ≤ j := by rw [← mt_length, hmt]; exact trees_length c j
  clear hmt ho hy hbw
  by_cases hlt : j < n
  ·have hjc : j < c.length := by rw [HN.out]; exact hlt
   obtain ⟨b, off, rfl, hbz, hcl⟩ := HS1.out.some (by rw [up_length]; omega)
   have ci : wr.cell? ⟨b, off + j, none⟩ = some (.int .i64 (c[j] : Nat)) := (HBW.out.cell (p := ⟨b, off + j, none⟩) hbz).trans (up_get hcl j hjc)
   have HT1 := hideH (trees_yes c j hjc)
   have HT0 := hideH (trees_no c j hjc)
   generalize c[j] = cj at ci HT1 HT0
   clear hcl hjc
   by_cases h0 : 0 < cj
   ·have h0' : (0 : Int) < (cj : Int) := by omega
    go_wp2_with (at_builtin; refine wpList_append_own0k _ rfl (.tmp 24) (.tmp 32) 173 rfl w1.heap.size 175 j0 _ 2 32 Tryz.underlying173 hji hj0 hj1 hj2 rfl (by decide) _ _ _ rfl ((HO.out.alloc _).alloc _) ⟨wr.heap.size + 1, 0, none⟩ 1 1 [.int .i64 (cj : Nat), .slice (some ⟨wr.heap.size, 0, none⟩) 1 1] rfl rfl ?c1 (two_one rfl rfl) (by decide) (by unfold maxLen; omega) (by omega) (by simp; omega) ?_)
    case c1 =>
     have := two_new (wr.alloc (.cells #[.int .i64 (j : Nat)] 3)) (.int .i64 (cj : Nat)) (.slice (some ⟨wr.heap.size, 0, none⟩) 1 1) 175
     simpa using this
    intro v' w2 hown hbel hkp
    have HO2 : Hid (Own0 w2 w1.heap.size 175 2 v' (m ++ [(((cj, [j]), .slice (some ⟨wr.heap.size, 0, none⟩) 1 1) : MT)]).length (cells (m ++ [((cj, [j]), .slice (some ⟨wr.heap.size, 0, none⟩) 1 1)]))) := .inr (OwnT.snoc (x := ((cj, [j]), .slice (some ⟨wr.heap.size, 0, none⟩) 1 1)) hown)
    have HB2 : Hid (Below w1.heap.size w1 w2) := ((HBW.out.alloc hwz _).alloc (by simp; omega) _).trans (hbel _ (Nat.le_refl _))
    have hk1 : Keeps wr (wr.alloc (.cells #[.int .i64 (j : Nat)] 3)) := Keeps.below ((Below.refl _ _).alloc (Nat.le_refl _) _)
    have hk2 := hk1.trans (Keeps.below ((Below.refl _ (wr.alloc (.cells #[.int .i64 (j : Nat)] 3))).alloc (Nat.le_refl _) (.cells #[.int .i64 (cj : Nat), .slice (some ⟨wr.heap.size, 0, none⟩) 1 1] 175)))
    have hk3 : Keeps ((wr.alloc (.cells #[.int .i64 (j : Nat)] 3)).alloc (.cells #[.int .i64 (cj : Nat), .slice (some ⟨wr.heap.size, 0, none⟩) 1 1] 175)) w2 := fun g' cur' e' => hkp g' cur' _ (by decide) e'
    have HY2 : Hid (Syms w2 (m ++ [((cj, [j]), .slice (some ⟨wr.heap.size, 0, none⟩) 1 1)])) := by
     intro x hx
     rcases List.mem_append.1 hx with hx | hx
     ·exact (HY.out x hx).keeps (hk2.trans hk3)
     ·rw [List.mem_singleton.1 hx]
      exact ((Sym.one wr j).keeps (Keeps.below ((Below.refl _ _).alloc (Nat.le_refl _) _))).keeps hk3
    clear hown hbel hkp hk1 hk2 hk3
    go_wp2_with fail
    go_roundw
    case rel => exact ⟨j + 1, m ++ [((cj, [j]), .slice (some ⟨wr.heap.size, 0, none⟩) 1 1)], by go_num, by omega, by rw [HT1.out h0, ← HM.out]; unfold mt; rw [List.map_append]; rfl, HO2.out, HY2.out, HB2.out⟩
    case measure => simp [intOf]; omega
   ·have h0' : cj = 0 := by omega
    subst h0'
    go_wp2_with fail
    go_roundw
    case rel => exact ⟨j + 1, m, by go_num, by omega, by rw [HT0.out h0]; exact HM.out, HO.out, HY.out, HBW.out⟩
    case measure => simp [intOf]; omega
  ·obtain rfl : j = n := by omega
   have hlen : w1.heap.size ≤ wr.heap.size := hwz
   have HLP : Hid (LpS w1.heap.size w.heap.size j c.sum w wr u5 m (zeros j)) := ⟨HO.out, HY.out, by
    have : up (zeros j) = List.replicate j 0 := by unfold up zeros; rw [List.map_replicate]; rfl
    rw [this]
    exact HI1.out.below HBW.out hz1w, by
    have := HINV.out
    rw [HN.out, HTK.out] at this
    rw [HM.out]
    exact this, by rw [HM.out]; exact HNS.out, List.length_replicate .., fun z hz => by
    obtain ⟨i, _, _, e⟩ := trees_mem c j z.1 (by rw [← HM.out]; exact List.mem_map.2 ⟨z, hz, rfl⟩)
    rw [e]
    exact Nat.zero_lt_one, HB1.out.trans (HBW.out.mono HB1.out.size), Nat.le_refl _, hz1w⟩
   obtain ⟨x2, q2, hv2⟩ := own0_slice HLP.out.own
   subst hv2
   clear HO HY HBW HI1 HS1
   generalize wr = w2 at HLP hlen ⊢
   have HMT := hideH HM.out
   clear HM
   obtain ⟨k, hk⟩ : ∃ k, k = m.length := ⟨_, rfl⟩
   have HK := hideH hk
   rw [← hk] at hml HLP ⊢
   clear hk
   by_cases h1 : k = 1
   ·subst h1
    obtain ⟨y, hy⟩ := List.length_eq_one_iff.1 HK.out.symm
    subst hy
    obtain ⟨g, q', cur, hv, hgb, hmc, hmx, hbk, hcs, hct⟩ := (own0_own (m := [y]) HLP.out.own Nat.zero_lt_one).parts Nat.zero_lt_one
    obtain ⟨rfl, rfl⟩ : x2 = some ⟨g, 0, none⟩ ∧ q2 = q' := by simp at hv; exact hv
    have hr := row_at (m := [y]) hbk hct 0 Nat.zero_lt_one
    obtain ⟨jj, hjn, _, hye⟩ := trees_mem c j y.1 (by rw [← HMT.out]; exact List.mem_map.2 ⟨y, List.mem_singleton.2 rfl, rfl⟩)
    have hsy := HLP.out.sym y (List.mem_singleton.2 rfl)
    have HTE : Hid (trees c j = [y.1]) := HMT.out.symm
    obtain ⟨⟨yw, ys⟩, yv⟩ := y
    simp only at hr hye hsy HTE
    obtain ⟨rfl, rfl⟩ := Prod.mk.inj hye
    obtain ⟨gs, cs, cu, rfl, hgs, hsc, hsv⟩ := hsy
    have hs0 : w2.cell? ⟨gs, 0, none⟩ = some (.int .i64 (jj : Nat)) := (cell_of_row w2 gs 0 _ _ _ hgs).trans (hsv 0 Nat.zero_lt_one)
    have hlz : jj < (zeros j).length := by rw [HLP.out.dn]; exact hjn
    have cl0 : w2.cell? ⟨w.heap.size, jj, none⟩ = some (.int .i64 (((zeros j).getD jj 0 : Nat) : Int)) := by
     rw [HLP.out.len.cell (j := jj) (by rw [up_length]; exact hlz), up_at _ _ hlz]
    have zl0 := HLP.out.len.frozen jj
    generalize (zeros j).getD jj 0 = old at cl0
    have HD1 : Hid (depths c = (zeros j).set jj 1) := by
     have := HDE.out
     rw [HTE.out] at this
     exact this
    have I3 : Hid (IsI (w2.setCell ⟨w.heap.size, jj, none⟩ (.int .i64 1)) w.heap.size 2 (up (depths c))) := by
     have := HLP.out.len.set jj 1
     unfold Hid
     rw [HD1.out]
     rw [show ((1 : Int)) = ((1 : Nat) : Int) from rfl, up_set] at this
     exact this
    have B3 : Hid (Below w.heap.size w (w2.setCell ⟨w.heap.size, jj, none⟩ (.int .i64 1))) := HLP.out.low.setCell (by simp) _
    obtain ⟨r0, r1⟩ := hr
    rw [Nat.zero_mul] at r0
    rw [show 0 * 2 + 1 = 1 from rfl] at r1
    have hjn' : (jj : Int) < j := by omega
    clear hbk hcs hct hgs hsv hlz hmx HINV HNS HDE HLP
    go_wp2_with fail
    clear cl0 zl0 r0 r1 hs0
    generalize w2.setCell ⟨w.heap.size, jj, none⟩ (.int .i64 1) = w4 at I3 B3 ⊢
    go_loopw [5] (fun tv wr => tv = .slice (some ⟨g, 0, none⟩) 1 q2 ∧ wr = w4) (fun _ _ => 0)
    case atStart => exact ⟨rfl, rfl⟩
    case round =>
     obtain ⟨rfl, hw⟩ := hrel
     subst wr
     go_wp2_with fail
     have DL := hideH ((depths_length c).trans HN.out)
     generalize hD : depths c = D at I3 DL
     have HD := hideH hD
     clear hD
     generalize w4 = wz at I3 B3 ⊢
     go_loopw [8, 7] (fun iv mv wr => ∃ i : Nat, iv = .int .i64 i ∧ i ≤ j ∧ mv = .int .i64 (mxN D i : Nat) ∧ wr = wz) (fun iv _ _ => j - (intOf iv).toNat)
     case atStart => exact ⟨0, rfl, Nat.zero_le _, rfl, rfl⟩
     case round =>
      obtain ⟨i, rfl, hi3, rfl, hw⟩ := hrel
      subst wr
      by_cases hlt3 : i < j
      ·have hil : i < D.length := by rw [DL.out]; exact hlt3
       have ci : wz.cell? ⟨w.heap.size, i, none⟩ = some (.int .i64 (D.getD i 0 : Nat)) := by
        rw [I3.out.cell (j := i) (by rw [up_length]; exact hil), up_at _ _ hil]
       have NX : Hid (mxN D (i + 1) = max (mxN D i) (D.getD i 0)) := rfl
       have hii : (i : Int) < j := by omega
       generalize D.getD i 0 = x at ci NX
       generalize mxN D i = p at NX ⊢
       clear hil
       go_wp2_with fail
       refine (max_any p x wz).mono ?_
       rintro e w8 ⟨rfl, hw8⟩
       subst w8
       go_wp2_with fail
       go_roundw
       case rel => exact ⟨i + 1, by go_num, by omega, by rw [NX.out], by trivial⟩
       case measure => simp [intOf]; omega
      ·obtain rfl : i = j := by omega
       go_wp2_with fail
       go_ret2
       exact ⟨by rw [HD.out]; rfl, by rw [HD.out]; exact I3.out, B3.out⟩
   ·have h1' : ((k : Int) == 1) = false := by simp; omega
    have HRUN : Hid (depths c = run m.length (mt m) (zeros j)) := by
     have := HDE.out
     rw [← HMT.out, mt_length, ← HK.out, if_neg h1] at this
     rw [← HK.out]
     exact this
    go_wp2_with fail
    go_loopw [5] (fun tv wr => ∃ (m : List MT) (d : List Nat) (x : Option Addr) (k q : Nat), tv = .slice x k q ∧ k = m.length ∧ k ≤ j ∧ depths c = run m.length (mt m) d ∧ LpS w1.heap.size w.heap.size j c.sum w wr (.slice x k q) m d) (fun tv _ => match tv with | .slice _ k _ => k | _ => 0)
    case atStart => exact ⟨m, zeros j, x2, k, q2, rfl, HK.out, by omega, HRUN.out, HLP.out⟩
    case round =>
     obtain ⟨m, d, x, k, q, rfl, hk, hkn, hrun, hlp⟩ := hrel
     have HRU := hideH hrun
     have HL := hideH hlp
     have HKM := hideH hk
     clear hrun hlp hk HMT HLP HRUN HK
     by_cases h2 : 1 < k
     ·obtain ⟨k2, rfl⟩ : ∃ k2, k = k2 + 2 := ⟨k - 2, by omega⟩
      have hm1 : m.length = k2 + 2 := HKM.out.symm
      obtain ⟨g, q', cur, hv, hgb, hmc, hmx, hbk, hcs, hct⟩ := (own0_own (m := m) (by rw [hm1]; have := HL.out.own; rw [hm1] at this; exact this) (by omega)).parts (by omega)
      rw [hm1] at hv hmc
      obtain ⟨rfl, rfl⟩ : x = some ⟨g, 0, none⟩ ∧ q = q' := by simp at hv; exact hv
      have hinv := HL.out.inv
      have h2l : 2 ≤ (mt m).length := by rw [mt_length]; omega
      have hsum := HSUM.out
      have hjw := hinv.weights h2l
      have hjinv := hinv.join h2l
      have hjns := ns_join (mt m) h2l
      have hrm := run_more (mt m) d (by omega)
      have hbd : ∀ z ∈ m, z.1.2.length ≤ 257 := fun z hz => by
       have h3 := ns_mem (mt m) z.1 (List.mem_map.2 ⟨z, hz, rfl⟩)
       have h4 := HL.out.few
       omega
      have hlt : ∀ z ∈ m, ∀ s ∈ z.1.2, s < d.length := fun z hz => hinv.lt z.1 (List.mem_map.2 ⟨z, hz, rfl⟩)
      have hsm : ∀ i, d.getD i 0 ≤ 3000000 := fun i => by
       have := hinv.small i
       omega
      have HJ := hideH (joinS_any g w.heap.size k2 q j j m d cur wr hm1 (by omega) hbk hct HL.out.sym hbd HL.out.ne hlt HL.out.len HL.out.dn hsm (by omega))
      have HNX : Hid (∀ v' m' w', mt m' = join (mt m) → OwnT w' 175 wr.heap.size v' m' → Syms w' m' → IsI w' w.heap.size 2 (up (incs (incs d (first (mt m)).2) (second (mt m)).2)) → Wr w.heap.size w.heap.size wr w' → ∃ x q, v' = .slice x (k2 + 1) q ∧ k2 + 1 = m'.length ∧ depths c = run m'.length (mt m') (incs (incs d (first (mt m)).2) (second (mt m)).2) ∧ LpS w1.heap.size w.heap.size j c.sum w w' v' m' (incs (incs d (first (mt m)).2) (second (mt m)).2)) := by
       intro v' m' w' e1 e2 e3 e4 e5
       have hl' : m'.length = k2 + 1 := by
        rw [← mt_length, e1, join_length _ h2l, mt_length, hm1]
        omega
       obtain ⟨g9, q9, _, hv9, _⟩ := e2.parts (by omega)
       have hlow := HL.out.low
       have hw1 : w1.heap.size ≤ wr.heap.size := by
        have := lt_row hbk
        omega
       refine ⟨_, q9, by rw [hv9, hl'], hl'.symm, ?_, ⟨.inr (e2.mono hw1), e3, e4, by rw [e1]; exact hjinv, by rw [e1, hjns]; exact HL.out.few, by rw [incs_length, incs_length]; exact HL.out.dn, ?_, ?_, HL.out.lo, HL.out.hi⟩⟩
       ·have h3 := HRU.out
        rw [mt_length] at hrm
        rw [hrm, ← e1, mt_length] at h3
        exact h3
       ·intro z hz
        have hz' : z.1 ∈ join (mt m) := by rw [← e1]; exact List.mem_map.2 ⟨z, hz, rfl⟩
        exact join_ne m h2l HL.out.ne z.1 hz'
       ·exact ⟨e5.os.trans hlow.os, e5.tape.trans hlow.tape, e5.output.trans hlow.output, Nat.le_trans hlow.size e5.size, fun b hb => (e5.block b (Nat.lt_of_lt_of_le hb hlow.size) (by omega) (by omega)).trans (hlow.block b hb)⟩
      clear hv hgb hmc hmx hbk hcs hct hinv hsum hjw hjinv hjns hrm hbd hlt hsm h2l hm1
      go_wp2_with fail
      refine HJ.out.mono ?_
      rintro e w5 ⟨v5, m5, rfl, h51, h52, h53, h54, h55⟩
      obtain ⟨x5, q5, rfl, hl5, hr5, hlp5⟩ := HNX.out v5 m5 w5 h51 h52 h53 h54 h55
      have R5 := hideH hr5
      have L5 := hideH hlp5
      have E5 := hideH hl5
      clear h51 h52 h53 h54 h55 hr5 hlp5 hl5 HJ HNX
      go_wp2_with fail
      go_roundw
      case rel => exact ⟨m5, _, x5, k2 + 1, q5, rfl, E5.out, by omega, R5.out, L5.out⟩
      case measure => simp
     ·have h2' : decide ((1 : Int) < (k : Int)) = false := by simp; omega
      have HF : Hid (depths c = d) := HRU.out.trans (run_done _ _ _ (by rw [mt_length, ← HKM.out]; omega))
      have I3 : Hid (IsI wr w.heap.size 2 (up (depths c))) := by rw [HF.out]; exact HL.out.len
      have B3 := hideH HL.out.low
      clear HRU HL HKM HF HINV HNS HDE
      go_wp2_with fail
      generalize wr = w4 at I3 B3 ⊢
      have DL := hideH ((depths_length c).trans HN.out)
      generalize hD : depths c = D at I3 DL
      have HD := hideH hD
      clear hD
      generalize w4 = wz at I3 B3 ⊢
      go_loopw [8, 7] (fun iv mv wr => ∃ i : Nat, iv = .int .i64 i ∧ i ≤ j ∧ mv = .int .i64 (mxN D i : Nat) ∧ wr = wz) (fun iv _ _ => j - (intOf iv).toNat)
      case atStart => exact ⟨0, rfl, Nat.zero_le _, rfl, rfl⟩
      case round =>
       obtain ⟨i, rfl, hi3, rfl, hw⟩ := hrel
       subst wr
       by_cases hlt3 : i < j
       ·have hil : i < D.length := by rw [DL.out]; exact hlt3
        have ci : wz.cell? ⟨w.heap.size, i, none⟩ = some (.int .i64 (D.getD i 0 : Nat)) := by
         rw [I3.out.cell (j := i) (by rw [up_length]; exact hil), up_at _ _ hil]
        have NX : Hid (mxN D (i + 1) = max (mxN D i) (D.getD i 0)) := rfl
        have hii : (i : Int) < j := by omega
        generalize D.getD i 0 = x at ci NX
        generalize mxN D i = p at NX ⊢
        clear hil
        go_wp2_with fail
        refine (max_any p x wz).mono ?_
        rintro e w8 ⟨rfl, hw8⟩
        subst w8
        go_wp2_with fail
        go_roundw
        case rel => exact ⟨i + 1, by go_num, by omega, by rw [NX.out], by trivial⟩
        case measure => simp [intOf]; omega
       ·obtain rfl : i = j := by omega
        go_wp2_with fail
        go_ret2
        exact ⟨by rw [HD.out]; rfl, by rw [HD.out]; exact I3.out, B3.out⟩
end Go.Proofs.YthbpenanelbbcaaGreatDoor.Hf


/- The walks of l04Of and of the specification's LengthsOf. -/
namespace Go.Proofs.YthbpenanelbbcaaGreatDoor.Hf
open Go.RowKit
open Go.Proofs.YthbpenanelbbcaaGreatDoor.In (IsI IsO irow Ints OwnI)
open Go.Proofs.YthbpenanelbbcaaGreatDoor.Bi (within within_yes)
open Go.Proofs.YthbpenanelbbcaaGreatDoor.Ap (Own0 wpList_append_own0k)
def midG (c : List Nat) (j : Nat) : List Nat := (flat c).take j ++ c.drop j
theorem midG_length (c : List Nat) (j : Nat) (h : j ≤ c.length) : (midG c j).length = c.length := by
 unfold midG
 rw [List.length_append, List.length_take, flat_length, List.length_drop]
 omega
theorem midG_at (c : List Nat) (j : Nat) (h : j < c.length) : (midG c j)[j]? = some c[j] := by
 unfold midG
 have hl : ((flat c).take j).length = j := by rw [List.length_take, flat_length]; omega
 rw [List.getElem?_append_right (by omega), hl, Nat.sub_self, List.getElem?_drop, Nat.add_zero, List.getElem?_eq_getElem h]
theorem midG_next (c : List Nat) (j : Nat) (h : j < c.length) : (midG c j).set j (if 0 < c[j] then c[j] / 2 + 1 else 0) = midG c (j + 1) := by
 have hf : (flat c)[j]'(by rw [flat_length]; exact h) = if 0 < c[j] then c[j] / 2 + 1 else 0 := by
  unfold flat
  rw [List.getElem_map]
 have hl : ((flat c).take j).length = j := by rw [List.length_take, flat_length]; omega
 unfold midG
 rw [← hf, List.set_append, if_neg (by omega), hl, Nat.sub_self, List.drop_eq_getElem_cons h, List.set_cons_zero, List.take_add_one, List.getElem?_eq_getElem (by rw [flat_length]; exact h), List.append_assoc]
 rfl
theorem midG_yes (c : List Nat) (j : Nat) (h : j < c.length) (h0 : 0 < c[j]) : (midG c j).set j (c[j] / 2 + 1) = midG c (j + 1) := by
 have := midG_next c j h
 rw [if_pos h0] at this
 exact this
theorem midG_no (c : List Nat) (j : Nat) (h : j < c.length) (h0 : ¬ 0 < c[j]) : midG c j = midG c (j + 1) := by
 have := midG_next c j h
 rw [if_neg h0] at this
 rw [← this]
 have e : (midG c j)[j]? = some 0 := by rw [midG_at c j h]; congr 1; omega
 obtain ⟨h1, h2⟩ := List.getElem?_eq_some_iff.1 e
 apply List.ext_getElem?
 intro i
 rw [List.getElem?_set]
 by_cases hi : j = i
 ·subst hi
  rw [if_pos rfl, if_pos h1, e]
 ·rw [if_neg hi]
theorem midG_zero (c : List Nat) : midG c 0 = c := by
 unfold midG
 simp
theorem midG_all (c : List Nat) : midG c c.length = flat c := by
 unfold midG
 rw [List.drop_length, List.append_nil, List.take_of_length_le (by rw [flat_length]; exact Nat.le_refl _)]
theorem up_news {W : World} {b off : Nat} {l : List Int} (hc : ∀ j (h : j < l.length), W.cell? ⟨b, off + j, none⟩ = some (.int .i64 l[j])) : ∀ j u, (l.map (Value.int .i64))[j]? = some u → W.cell? ((⟨b, off, none⟩ : Addr).add j) = some u := by
 intro j u hu
 have hj : j < l.length := by
  have := (List.getElem?_eq_some_iff.1 hu).1
  rwa [List.length_map] at this
 rw [List.getElem?_map, List.getElem?_eq_getElem hj] at hu
 rw [Addr.add_lit, hc j hj]
 exact hu
theorem ints_one (l : List Int) : ∀ u ∈ l.map (Value.int .i64), u.oneCell' = true := by
 intro u hu
 obtain ⟨x, _, rfl⟩ := List.mem_map.1 hu
 rfl
set_option maxRecDepth 100000 in
set_option maxHeartbeats 600000 in
theorem ofS_any (a : Option Addr) (cap n : Nat) (c0 : List Nat) (w : World) (h : Ints w w.heap.size a (up c0)) (hn : c0.length = n) (h0 : 0 < n) (h257 : n ≤ 257) (hm : ∀ x ∈ c0, x ≤ 10000) :
  Calls Tryz.prog 93 #[.slice a n cap] w fun e w' => ∃ v, e = .returned v ∧ OwnI w' w.heap.size v (up (lenOf c0)) ∧ Below w.heap.size w w' := by
 obtain ⟨i0, hi, hz0, hz1, hz2⟩ := info_parts In.Tryz.infoI2
 have HN := hideH hn
 obtain ⟨b, off, rfl, hbz, hcl⟩ := h.some (by rw [up_length]; omega)
 have HCL := hideH (fun (W : World) (hW : Below w.heap.size w W) => up_news (W := W) fun j hj => (hW.cell (p := ⟨b, off + j, none⟩) hbz).trans (hcl j hj))
 have HM := hideH hm
 have HLU : Hid ((up c0).length = n) := by unfold Hid; rw [up_length]; exact hn
 obtain ⟨R, hR⟩ : ∃ R, R = lenOf c0 := ⟨_, rfl⟩
 have HRR := hideH hR
 rw [← hR]
 clear hR hm hn h hcl
 go_enter Tryz.func93, Tryz.ntmps93
 go_wp2_with (at_builtin; refine wpList_append_own0k _ rfl (.tmp 7) (.tmp 8) 59 rfl w.heap.size 2 i0 (.int .i64 0) 1 8 Tryz.underlying59 hi hz0 hz1 hz2 rfl (by decide) _ 0 [] rfl (.inl ⟨_, rfl, rfl, rfl⟩) ⟨b, off, none⟩ n cap ((up c0).map (Value.int .i64)) rfl (by rw [List.length_map, HLU.out]; omega) (HCL.out _ ((Below.refl _ _).alloc (Nat.le_refl _) _)) (ints_one _) h0 (by unfold maxLen; omega) (by omega) (by simp) ?_)
 intro v1 w1 hown hbel _
 have O1 : Hid (OwnI w1 w.heap.size v1 (up c0)) := by
  unfold Hid OwnI
  rw [HLU.out]
  simpa using hown
 have B1 : Hid (Below w.heap.size w w1) := ((Below.refl _ _).alloc (Nat.le_refl _) _).trans (hbel _ (Nat.le_refl _))
 clear hown hbel HCL
 obtain ⟨gx, q, hv, hgx, hnq, ho⟩ : ∃ g cap, v1 = .slice (some ⟨g, 0, none⟩) (up c0).length cap ∧ w.heap.size ≤ g ∧ (up c0).length ≤ cap ∧ IsO w1 g 2 (up c0) := by
  rcases O1.out.split with ⟨_, h⟩ | h
  ·have := HLU.out
   rw [h] at this
   simp at this
   omega
  ·exact h
 rw [HLU.out] at hv
 subst hv
 have X1 := hideH ho
 clear ho hnq O1
 go_wp2_with fail
 go_loopw [4, 5, 6] (fun _ _ _ wr => ∃ c : List Nat, c.length = n ∧ (∀ y ∈ c, y ≤ 10000) ∧ R = lenOf c ∧ IsO wr gx 2 (up c) ∧ Below w.heap.size w wr) (fun _ _ _ wr => sumAt wr (.slice (some ⟨gx, 0, none⟩) n q))
 case atStart => exact ⟨c0, HN.out, HM.out, HRR.out, X1.out, B1.out⟩
 case round =>
  obtain ⟨c, hcn, hcm, hcr, hxo, hbw⟩ := hrel
  have CN := hideH hcn
  have CM := hideH hcm
  have CR := hideH hcr
  have XO := hideH hxo
  have BW := hideH hbw
  have hzw := hbw.size
  have hgz := hxo.lt
  have HOM : Hid (okay (depths c) = decide (mxN (depths c) n ≤ 12)) := by
   unfold Hid
   rw [okay_mx, depths_length, hcn]
  clear hcn hcm hcr hxo hbw
  go_wp2_with fail
  refine (lensS_any (some ⟨gx, 0, none⟩) q n c wr (XO.out.ints hgz) CN.out h257 CM.out).mono ?_
  rintro e w3 ⟨rfl, hi3, hb3⟩
  have I3 := hideH hi3
  have B3 := hideH (BW.out.trans (hb3.mono hzw))
  have X3 := hideH (XO.out.below hb3 hgz)
  have E3 := hideH (sumAt_ints (q := q) (XO.out.ints hgz) CN.out)
  clear hi3 hb3
  by_cases hok : mxN (depths c) n ≤ 12
  ·have hok' : ((mxN (depths c) n : Nat) : Int) ≤ 12 := by omega
   have HF : Hid (R = depths c) := CR.out.trans (lenOf_yes c (by rw [HOM.out]; exact decide_eq_true hok))
   clear HOM hok
   generalize mxN (depths c) n = mx at hok' ⊢
   go_wp2_with fail
   go_ret
   exact ⟨_, rfl, by rw [HF.out]; exact own_of I3.out hzw (by rw [up_length, depths_length, CN.out]) (by omega), B3.out⟩
  ·have hok' : decide (((mxN (depths c) n : Nat) : Int) ≤ 12) = false := by simp; omega
   have hno : ¬ okay (depths c) = true := by rw [HOM.out]; simp; omega
   have HNO := hideH (lenOf_no c (by have := CN.out; omega) hno)
   have HLT := hideH (flat_more c (by have := CN.out; omega) hno)
   clear HOM hok hno I3
   generalize mxN (depths c) n = mx at hok' ⊢
   have hz3 := B3.out.size
   go_wp2_with fail
   go_loopw [6] (fun iv wr => ∃ j : Nat, iv = .int .i64 j ∧ j ≤ n ∧ IsO wr gx 2 (up (midG c j)) ∧ Below w.heap.size w wr) (fun iv _ => n - (intOf iv).toNat)
   case atStart => exact ⟨0, rfl, Nat.zero_le _, by rw [midG_zero]; exact X3.out, B3.out⟩
   case round =>
    obtain ⟨j, rfl, hj, hoj, hbj⟩ := hrel
    have OJ := hideH hoj
    have BJ := hideH hbj
    clear hoj hbj
    by_cases hlt : j < n
    ·have hjc : j < c.length := by rw [CN.out]; exact hlt
     have hml : j < (midG c j).length := by rw [midG_length c j (by omega)]; exact hjc
     have ci : wr.cell? ⟨gx, j, none⟩ = some (.int .i64 (c[j] : Nat)) := by
      rw [OJ.out.cell (j := j) (by rw [up_length]; exact hml), up_at _ _ hml, List.getD_eq_getElem?_getD, midG_at c j hjc]
      rfl
     have zl := OJ.out.frozen j
     have HY := hideH (midG_yes c j hjc)
     have HNN := hideH (midG_no c j hjc)
     have hcm := CM.out c[j] (List.getElem_mem hjc)
     have hjl : (j : Int) < n := by omega
     generalize c[j] = cj at ci HY HNN hcm
     clear hml hjc
     by_cases hc0 : 0 < cj
     ·have h0' : (0 : Int) < (cj : Int) := by omega
      have hq : (cj : Int).tdiv 2 = ((cj / 2 : Nat) : Int) := by rw [Int.tdiv_eq_ediv_of_nonneg (by omega)]; rfl
      go_wp2_with fail
      go_roundw
      case rel =>
       refine ⟨j + 1, by go_num, by omega, ?_, BJ.out.setCell (by simp; omega) _⟩
       rw [← HY.out hc0, ← up_set]
       exact OJ.out.set j _
      case measure => simp [intOf]; omega
     ·have h0' : cj = 0 := by omega
      subst h0'
      go_wp2_with fail
      go_roundw
      case rel => exact ⟨j + 1, by go_num, by omega, by rw [← HNN.out hc0]; exact OJ.out, BJ.out⟩
      case measure => simp [intOf]; omega
    ·obtain rfl : j = n := by omega
     have OF : Hid (IsO wr gx 2 (up (flat c))) := by
      have := OJ.out
      rw [← CN.out, midG_all] at this
      exact this
     have FN : Hid ((flat c).length = j) := by rw [flat_length]; exact CN.out
     go_wp2_with fail
     go_roundw
     case rel => exact ⟨flat c, FN.out, flat_small c CM.out, CR.out.trans HNO.out, OF.out, BJ.out⟩
     case measure =>
      have e2 := sumAt_ints (q := q) (OF.out.ints OF.out.lt) FN.out
      have e3 := HLT.out
      rw [← E3.out, ← e2] at e3
      exact e3
theorem own_none (W : World) : OwnI (W.alloc (.cells #[] 2)) W.heap.size (.slice (some ⟨W.heap.size, 0, none⟩) 0 0) [] :=
 ⟨rfl, .inr ⟨W.heap.size, 0, #[], rfl, Nat.le_refl _, heap_alloc_new W _, Nat.le_refl _, by unfold maxLen; omega, rfl, rfl⟩⟩
end Go.Proofs.YthbpenanelbbcaaGreatDoor.Hf


/- Plain mathematics of lengths: of counts that are not all 0 they are whole, and just the symbols that count have one. -/
namespace Go.Proofs.YthbpenanelbbcaaGreatDoor.Hf
open Go.Proofs.YthbpenanelbbcaaGreatDoor.Bi (csum above part whole right within within_of csum_snoc above_snoc)
def kr (K : Nat) (d s : List Nat) : Nat := (s.map fun k => 2 ^ (K - dep d k)).sum
theorem kr_append (K : Nat) (d s t : List Nat) : kr K d (s ++ t) = kr K d s + kr K d t := by
 unfold kr
 rw [List.map_append, List.sum_append]
theorem kr_perm (K : Nat) (d : List Nat) {s t : List Nat} (p : s.Perm t) : kr K d s = kr K d t := (p.map _).sum_nat
theorem kr_congr (K : Nat) (d d' s : List Nat) (h : ∀ k ∈ s, dep d' k = dep d k) : kr K d' s = kr K d s := by
 unfold kr
 rw [List.map_congr_left fun k hk => by rw [h k hk]]
theorem kr_up (K : Nat) (d d' s : List Nat) (h : ∀ k ∈ s, dep d' k = dep d k + 1 ∧ dep d k + 1 ≤ K) : 2 * kr K d' s = kr K d s := by
 induction s with
 | nil => rfl
 | cons k s ih =>
  have h1 := ih fun x hx => h x (List.mem_cons_of_mem _ hx)
  obtain ⟨h2, h3⟩ := h k (List.mem_cons_self ..)
  unfold kr at h1 ⊢
  rw [List.map_cons, List.sum_cons, List.map_cons, List.sum_cons, Nat.mul_add, h1, h2]
  have : 2 * 2 ^ (K - (dep d k + 1)) = 2 ^ (K - dep d k) := by
   rw [show K - dep d k = (K - (dep d k + 1)) + 1 by omega, Nat.pow_succ]
   omega
  rw [this]
def KrInv (K : Nat) (l : List Tree) (d : List Nat) : Prop := ∀ t ∈ l, kr K d t.2 = 2 ^ K
def alls (l : List Tree) : List Nat := l.flatMap fun t => t.2
theorem alls_perm {l l' : List Tree} (p : l.Perm l') : (alls l).Perm (alls l') := p.flatMap_right _
theorem alls_join (l : List Tree) (h : 2 ≤ l.length) : (alls (join l)).Perm (alls l) := by
 have e : alls (both l :: rest2 l) = alls (first l :: second l :: rest2 l) := by
  unfold alls both
  rw [List.flatMap_cons, List.flatMap_cons, List.flatMap_cons, List.append_assoc]
 exact (alls_perm (join_perm l)).trans (e ▸ (alls_perm (two_perm l h)).symm)
theorem dep_join {l : List Tree} {d : List Nat} {n : Nat} (h : Inv l d n) (h2 : 2 ≤ l.length) (s : Nat) : dep (incs (incs d (first l).2) (second l).2) s = if s ∈ (first l).2 ++ (second l).2 then dep d s + 1 else dep d s := by
 have h' := h.perm (two_perm l h2)
 obtain ⟨pa, _⟩ := List.pairwise_cons.1 h'.pw
 exact two_dep d _ _ (h'.nd _ (List.mem_cons_self ..)) (h'.nd _ (List.mem_cons_of_mem _ (List.mem_cons_self ..))) (pa _ (List.mem_cons_self ..)).2.2 (h'.lt _ (List.mem_cons_self ..)) (h'.lt _ (List.mem_cons_of_mem _ (List.mem_cons_self ..))) s
theorem KrInv.join {K : Nat} {l : List Tree} {d : List Nat} {n : Nat} (hk : KrInv K l d) (h : Inv l d n) (h2 : 2 ≤ l.length) (hn : n ≤ K) : KrInv K (join l) (incs (incs d (first l).2) (second l).2) := by
 have hd := dep_join h h2
 have hj := h.join h2
 have hp := two_perm l h2
 have h' := h.perm hp
 obtain ⟨pa, pb'⟩ := List.pairwise_cons.1 h'.pw
 obtain ⟨pb, _⟩ := List.pairwise_cons.1 pb'
 have hup : ∀ s, s ∈ (first l).2 ++ (second l).2 → dep (incs (incs d (first l).2) (second l).2) s = dep d s + 1 ∧ dep d s + 1 ≤ K := by
  intro s hs
  have e := hd s
  rw [if_pos hs] at e
  refine ⟨e, ?_⟩
  have := hj.small s
  unfold dep at e ⊢
  omega
 intro t ht
 rcases List.mem_cons.1 ((join_perm l).mem_iff.1 ht) with rfl | hr
 ·have h3 := kr_up K d _ (first l).2 fun k hk => hup k (List.mem_append_left _ hk)
  have h4 := kr_up K d _ (second l).2 fun k hk => hup k (List.mem_append_right _ hk)
  rw [hk _ (hp.mem_iff.2 (List.mem_cons_self ..))] at h3
  rw [hk _ (hp.mem_iff.2 (List.mem_cons_of_mem _ (List.mem_cons_self ..)))] at h4
  show kr K _ ((first l).2 ++ (second l).2) = _
  rw [kr_append]
  omega
 ·rw [kr_congr K d _ t.2 fun k hk => ?_]
  ·exact hk t (hp.mem_iff.2 (List.mem_cons_of_mem _ (List.mem_cons_of_mem _ hr)))
  ·rw [hd, if_neg]
   intro hx
   rcases List.mem_append.1 hx with hx | hx
   ·exact (pa t (List.mem_cons_of_mem _ hr)).2.2 k hx hk
   ·exact (pb t hr).2.2 k hx hk
theorem run_kraft {K : Nat} (f : Nat) : ∀ (l : List Tree) (d : List Nat) (n : Nat), Inv l d n → n ≤ K → l.length ≤ f → 0 < l.length → KrInv K l d → kr K (run f l d) (alls l) = 2 ^ K := by
 induction f with
 | zero => intro l d n _ _ h1 h2; omega
 | succ f ih =>
  intro l d n h hn hf h0 hk
  rw [run]
  by_cases h1 : l.length ≤ 1
  ·rw [if_pos h1]
   obtain ⟨t, rfl⟩ := List.length_eq_one_iff.1 (show l.length = 1 by omega)
   have := hk t (List.mem_singleton.2 rfl)
   unfold alls
   rw [List.flatMap_cons, List.flatMap_nil, List.append_nil]
   exact this
  ·rw [if_neg h1]
   have hjl := join_length l (by omega)
   rw [← kr_perm K _ (alls_join l (by omega))]
   exact ih (join l) _ n (h.join (by omega)) hn (by omega) (by omega) (hk.join h (by omega) hn)
theorem run_out (f : Nat) : ∀ (l : List Tree) (d : List Nat) (n s : Nat), Inv l d n → s ∉ alls l → dep (run f l d) s = dep d s := by
 induction f with
 | zero => intro l d n s _ _; rfl
 | succ f ih =>
  intro l d n s h hs
  rw [run]
  by_cases h1 : l.length ≤ 1
  ·rw [if_pos h1]
  ·rw [if_neg h1, ih (join l) _ n s (h.join (by omega)) (fun hx => hs ((alls_join l (by omega)).mem_iff.1 hx)), dep_join h (by omega), if_neg]
   intro hx
   refine hs ((alls_perm (two_perm l (by omega))).mem_iff.2 ?_)
   unfold alls
   rw [List.flatMap_cons, List.flatMap_cons]
   rcases List.mem_append.1 hx with hx | hx
   ·exact List.mem_append_left _ hx
   ·exact List.mem_append_right _ (List.mem_append_left _ hx)
def syms (c : List Nat) (n : Nat) : List Nat := (List.range n).filter fun i => decide (0 < c.getD i 0)
theorem syms_succ (c : List Nat) (n : Nat) : syms c (n + 1) = if 0 < c.getD n 0 then syms c n ++ [n] else syms c n := by
 unfold syms
 rw [List.range_succ, List.filter_append, List.filter_cons, List.filter_nil]
 by_cases h : 0 < c.getD n 0
 ·rw [if_pos h, if_pos (decide_eq_true h)]
 ·rw [if_neg h, if_neg (by simpa using h), List.append_nil]
theorem alls_trees (c : List Nat) : ∀ n, alls (trees c n) = syms c n
 | 0 => rfl
 | n + 1 => by
  have ih := alls_trees c n
  rw [syms_succ, trees]
  split
  ·unfold alls at ih ⊢
   rw [List.flatMap_append, ih]
   rfl
  ·exact ih
theorem trees_syms (c : List Nat) : ∀ n, (trees c n).length = (syms c n).length
 | 0 => rfl
 | n + 1 => by
  have ih := trees_syms c n
  rw [syms_succ, trees]
  split
  ·rw [List.length_append, List.length_append, ih]
   rfl
  ·exact ih
theorem mem_syms {c : List Nat} {n i : Nat} : i ∈ syms c n ↔ i < n ∧ 0 < c.getD i 0 := by
 unfold syms
 rw [List.mem_filter, List.mem_range, decide_eq_true_eq]
theorem kr_pos (K : Nat) (d : List Nat) (s : List Nat) (h : 0 < s.length) : 0 < kr K d s := by
 cases s with
 | nil => exact absurd h (by decide)
 | cons k s =>
  unfold kr
  rw [List.map_cons, List.sum_cons]
  have := Nat.two_pow_pos (K - dep d k)
  omega
theorem kr_shift (K : Nat) (d s : List Nat) (hK : 12 ≤ K) (h : ∀ k ∈ s, dep d k ≤ 12) : kr K d s = 2 ^ (K - 12) * kr 12 d s := by
 unfold kr
 induction s with
 | nil => rfl
 | cons k s ih =>
  have h1 := h k (List.mem_cons_self ..)
  rw [List.map_cons, List.sum_cons, List.map_cons, List.sum_cons, ih (fun x hx => h x (List.mem_cons_of_mem _ hx)), Nat.mul_add, ← Nat.pow_add, show K - 12 + (12 - dep d k) = K - dep d k by omega]
theorem dep_okay {D : List Nat} (h : okay D = true) (i : Nat) : dep D i ≤ 12 := by
 unfold okay at h
 rw [List.all_eq_true] at h
 unfold dep
 by_cases hi : i < D.length
 ·rw [List.getD_eq_getElem?_getD, List.getElem?_eq_getElem hi]
  exact of_decide_eq_true (h _ (List.getElem_mem hi))
 ·rw [List.getD_eq_getElem?_getD, List.getElem?_eq_none (by omega)]
  exact Nat.zero_le _
theorem depths_two (c : List Nat) (h2 : 2 ≤ (syms c c.length).length) (ho : okay (depths c) = true) : (∀ i, 0 < dep (depths c) i ↔ i ∈ syms c c.length) ∧ kr 12 (depths c) (syms c c.length) = 4096 := by
 have hinv := trees_inv c c.length (Nat.le_refl _)
 rw [List.take_length] at hinv
 have hl := trees_syms c c.length
 have hD : depths c = run (trees c c.length).length (trees c c.length) (zeros c.length) := by
  unfold depths
  rw [if_neg (by omega)]
 have hK : KrInv (c.sum + 12) (trees c c.length) (zeros c.length) := by
  intro t ht
  obtain ⟨j, _, _, rfl⟩ := trees_mem c c.length t ht
  unfold kr
  simp [dep_zeros]
 have hkr := run_kraft (K := c.sum + 12) _ (trees c c.length) (zeros c.length) c.sum hinv (by omega) (Nat.le_refl _) (by omega) hK
 rw [alls_trees, ← hD] at hkr
 refine ⟨fun i => ⟨fun hi => ?_, fun hi => ?_⟩, ?_⟩
 ·refine Classical.byContradiction fun hn => ?_
  have := run_out (trees c c.length).length (trees c c.length) (zeros c.length) c.sum i hinv (by rw [alls_trees]; exact hn)
  rw [← hD, dep_zeros] at this
  omega
 ·refine Nat.pos_of_ne_zero fun h0 => ?_
  have hp := List.perm_cons_erase hi
  rw [kr_perm _ _ hp] at hkr
  have hp2 := kr_pos (c.sum + 12) (depths c) ((syms c c.length).erase i) (by
   have := hp.length_eq
   rw [List.length_cons] at this
   omega)
  unfold kr at hkr hp2
  rw [List.map_cons, List.sum_cons, h0, Nat.sub_zero] at hkr
  omega
 ·have hs := kr_shift (c.sum + 12) (depths c) (syms c c.length) (by omega) fun k _ => dep_okay ho k
  rw [hkr, Nat.pow_add, Nat.add_sub_cancel] at hs
  have := Nat.eq_of_mul_eq_mul_left (Nat.two_pow_pos c.sum) hs
  rw [← this]
theorem sums_syms (D : List Nat) (S : Nat → Bool) (h : ∀ i, i < D.length → (S i = true ↔ 0 < dep D i)) : ∀ k, k ≤ D.length → csum (up (D.take k)) = kr 12 D ((List.range k).filter S) ∧ above (up (D.take k)) = ((List.range k).filter S).length
 | 0, _ => ⟨rfl, rfl⟩
 | k + 1, hk => by
  obtain ⟨h1, h2⟩ := sums_syms D S h k (by omega)
  have hd : dep D k = D[k] := by
   unfold dep
   rw [List.getD_eq_getElem?_getD, List.getElem?_eq_getElem (by omega)]
   rfl
  have e : up (D.take (k + 1)) = up (D.take k) ++ [((D[k] : Nat) : Int)] := by
   rw [List.take_add_one, List.getElem?_eq_getElem (by omega)]
   unfold up
   rw [List.map_append]
   rfl
  rw [e, csum_snoc, above_snoc, h1, h2, List.range_succ, List.filter_append, kr_append, List.length_append, List.filter_cons, List.filter_nil]
  have hi := h k (by omega)
  rw [hd] at hi
  by_cases hp : 0 < D[k]
  ·rw [if_pos (hi.2 hp)]
   unfold Bi.part kr
   rw [if_pos (by omega), if_pos (by omega), List.map_cons, List.map_nil, List.sum_cons, List.sum_nil, hd]
   exact ⟨rfl, rfl⟩
  ·rw [if_neg (fun hx => hp (hi.1 hx))]
   unfold Bi.part
   rw [if_neg (by omega), if_neg (by omega)]
   exact ⟨rfl, rfl⟩
theorem syms_all (c : List Nat) (D : List Nat) (hl : D.length = c.length) (h : ∀ i, 0 < dep D i ↔ i ∈ syms c c.length) : csum (up D) = kr 12 D (syms c c.length) ∧ above (up D) = (syms c c.length).length := by
 have := sums_syms D (fun i => decide (0 < c.getD i 0)) (fun i hi => by
  rw [decide_eq_true_eq, h i, mem_syms]
  exact ⟨fun x => ⟨by omega, x⟩, fun x => x.2⟩) D.length (Nat.le_refl _)
 rw [List.take_length, hl] at this
 exact this
theorem depths_one (c : List Nat) (h1 : (syms c c.length).length = 1) : (∀ i, 0 < dep (depths c) i ↔ i ∈ syms c c.length) ∧ kr 12 (depths c) (syms c c.length) = 2048 := by
 have hl := trees_syms c c.length
 obtain ⟨t, ht⟩ := List.length_eq_one_iff.1 (hl.trans h1)
 obtain ⟨j, hj, hc, hte⟩ := trees_mem c c.length t (by rw [ht]; exact List.mem_singleton.2 rfl)
 have hs : syms c c.length = [j] := by
  rw [← alls_trees, ht, hte]
  rfl
 have hD : depths c = (zeros c.length).set j 1 := by
  unfold depths
  rw [if_pos (by omega), ht, hte]
  rfl
 have hd : ∀ i, dep (depths c) i = if i = j then 1 else 0 := by
  intro i
  rw [hD]
  unfold dep
  rw [getD_set _ _ _ _ (by unfold zeros; rw [List.length_replicate]; exact hj)]
  split
  ·rfl
  ·exact dep_zeros _ _
 rw [hs]
 refine ⟨fun i => ?_, ?_⟩
 ·rw [hd i, List.mem_singleton]
  split <;> rename_i e <;> simp [e]
 ·unfold kr
  rw [List.map_cons, List.map_nil, List.sum_cons, List.sum_nil, hd j, if_pos rfl]
  rfl
theorem depths_none (c : List Nat) (h0 : (syms c c.length).length = 0) : ∀ i, 0 < dep (depths c) i ↔ i ∈ syms c c.length := by
 have hl := trees_syms c c.length
 have hs := List.eq_nil_of_length_eq_zero h0
 have ht : trees c c.length = [] := List.eq_nil_of_length_eq_zero (hl.trans h0)
 intro i
 rw [hs]
 unfold depths
 rw [ht, if_neg (by decide)]
 have : run ([] : List Tree).length [] (zeros c.length) = zeros c.length := rfl
 rw [this, dep_zeros]
 simp
theorem whole_depths (c : List Nat) (hl : c.length ≤ 257) (ho : okay (depths c) = true) : (∀ i, 0 < dep (depths c) i ↔ i ∈ syms c c.length) ∧ (0 < (syms c c.length).length → whole (up (depths c)) = true) := by
 have hw : within (up (depths c)) 12 = true := by rw [within_okay _ (by rw [depths_length]; exact hl)]; exact ho
 by_cases h0 : (syms c c.length).length = 0
 ·exact ⟨depths_none c h0, fun h => by omega⟩
 ·by_cases h1 : (syms c c.length).length = 1
  ·obtain ⟨ha, hb⟩ := depths_one c h1
   obtain ⟨hc, hd⟩ := syms_all c (depths c) (depths_length c) ha
   refine ⟨ha, fun _ => ?_⟩
   unfold whole right
   rw [hw, hc, hb, hd, h1]
   rfl
  ·obtain ⟨ha, hb⟩ := depths_two c (by omega) ho
   obtain ⟨hc, hd⟩ := syms_all c (depths c) (depths_length c) ha
   refine ⟨ha, fun _ => ?_⟩
   unfold whole right
   rw [hw, hc, hb]
   rfl
theorem syms_flat (c : List Nat) (n : Nat) : syms (flat c) n = syms c n := by
 unfold syms
 congr 1
 funext i
 have : (flat c).getD i 0 = if 0 < c.getD i 0 then c.getD i 0 / 2 + 1 else 0 := by
  unfold flat
  rw [List.getD_eq_getElem?_getD, List.getElem?_map, List.getD_eq_getElem?_getD]
  cases c[i]? with
  | none => rfl
  | some x => rfl
 rw [this]
 by_cases h : 0 < c.getD i 0
 ·rw [if_pos h, decide_eq_true h, decide_eq_true (by omega)]
 ·rw [if_neg h, decide_eq_false h]
  rfl
theorem lenOf_facts (c : List Nat) (hl : c.length ≤ 257) : (lenOf c).length = c.length ∧ (∀ i, dep (lenOf c) i ≤ 12) ∧ (∀ i, 0 < dep (lenOf c) i ↔ i ∈ syms c c.length) ∧ (0 < (syms c c.length).length → whole (up (lenOf c)) = true) := by
 obtain ⟨k, hk⟩ : ∃ k, c.sum = k := ⟨_, rfl⟩
 induction k using Nat.strongRecOn generalizing c with
 | _ k ih =>
  by_cases ho : okay (depths c) = true
  ·rw [lenOf_yes c ho]
   exact ⟨depths_length c, dep_okay ho, whole_depths c hl ho⟩
  ·have hlt := flat_more c hl ho
   rw [lenOf_no c hl ho]
   obtain ⟨h1, h2, h3, h4⟩ := ih (flat c).sum (by omega) (flat c) (by rw [flat_length]; exact hl) rfl
   rw [flat_length] at h1 h3 h4
   rw [syms_flat] at h3 h4
   exact ⟨h1, h2, h3, h4⟩
end Go.Proofs.YthbpenanelbbcaaGreatDoor.Hf


/- The walks of countsOf and tableOf. -/
namespace Go.Proofs.YthbpenanelbbcaaGreatDoor.Pk
open Go.RowKit
open Go.Proofs.YthbpenanelbbcaaGreatDoor.St (Strs IsS made_strs)
open Go.Proofs.YthbpenanelbbcaaGreatDoor.In (Ints IsI OwnI made_ints)
open Go.Proofs.YthbpenanelbbcaaGreatDoor.Nu (putS)
open Go.Proofs.YthbpenanelbbcaaGreatDoor.Hf (up up_length up_at up_set incs incs_next incs_length incs_le dep)
def countsN (s : List Int) : List Nat := incs (Hf.zeros 257) (Hf.nats s)
theorem nats_at (s : List Int) (k : Nat) (h : k < s.length) : (Hf.nats s)[k]'(by unfold Hf.nats; rw [List.length_map]; exact h) = s[k].toNat := by
 unfold Hf.nats
 rw [List.getElem_map]
theorem zeros_length (n : Nat) : (Hf.zeros n).length = n := List.length_replicate ..
theorem countsN_length (s : List Int) : (countsN s).length = 257 := by
 unfold countsN
 rw [incs_length, zeros_length]
theorem counts_le (s : List Int) (h : ∀ x ∈ s, 0 ≤ x ∧ x ≤ 256) (k j : Nat) : (incs (Hf.zeros 257) ((Hf.nats s).take k)).getD j 0 ≤ s.length := by
 have h1 := incs_le ((Hf.nats s).take k) (Hf.zeros 257) j (fun y hy => by
  obtain ⟨x, hx, rfl⟩ := List.mem_map.1 (List.mem_of_mem_take hy)
  have := h x hx
  rw [zeros_length]
  omega)
 have h2 := Hf.dep_zeros 257 j
 unfold Hf.dep at h2
 rw [List.length_take] at h1
 have h3 : (Hf.nats s).length = s.length := List.length_map ..
 omega
set_option maxRecDepth 100000 in
set_option maxHeartbeats 1000000 in
theorem counts_impl (s : List Int) (a : Option Addr) (cap n : Nat) (w : World) (h : Ints w w.heap.size a s) (hn : s.length = n) (hn2 : n ≤ 400) (hr : ∀ x ∈ s, 0 ≤ x ∧ x ≤ 256) :
  Calls Tryz.prog 45 #[.slice a n cap] w fun e w' => e = .returned (.slice (some ⟨w.heap.size, 0, none⟩) 257 257) ∧ IsI w' w.heap.size 2 (up (countsN s)) ∧ Below w.heap.size w w' := by
 obtain ⟨i0, hi, hz0, hz1, hz2⟩ := info_parts In.Tryz.infoI2
 have HN := hideP hn
 have HS := hideP h
 have HR := hideP hr
 have HCL := hideP (counts_le s hr)
 have HNL : Hid ((Hf.nats s).length = s.length) := List.length_map ..
 clear h hn hr
 have HZ : Hid (up (incs (Hf.zeros 257) ((Hf.nats s).take 0)) = List.replicate 257 0) := by
  unfold Hid
  rw [List.take_zero]
  show up (Hf.zeros 257) = _
  unfold up Hf.zeros
  rw [List.map_replicate]
  rfl
 go_enter Tryz.func45, Tryz.ntmps45
 go_wp2_with (at_make; refine wpList_make_full _ rfl (.const (.int .i64 257)) (.const (.int .i64 257)) 59 rfl w.heap.size 2 i0 (.int .i64 0) 1 Tryz.underlying59 hi hz0 hz1 .i64 .i64 _ _ 257 rfl rfl (by omega) (by omega) (by rw [hz2]; omega) (by unfold maxLen; omega) (Nat.le_refl _) ?_; intro w1 hown hgrow; have HI1 := hideP (made_ints hown); have HB1 := hideP ((Below.refl w.heap.size w).grown hgrow (Nat.le_refl _) (by simp)); clear hown hgrow)
 go_loopw [9, 5] (fun iv _ wr => ∃ j : Nat, iv = .int .i64 j ∧ j ≤ n ∧ IsI wr w.heap.size 2 (up (incs (Hf.zeros 257) ((Hf.nats s).take j))) ∧ Below w.heap.size w wr) (fun iv _ _ => n - (intOf iv).toNat)
 case atStart => exact ⟨0, rfl, Nat.zero_le _, by rw [HZ.out]; exact HI1.out, HB1.out⟩
 case round =>
  obtain ⟨j, rfl, hj, hij, hbw⟩ := hrel
  have IJ := hideP hij
  have BW := hideP hbw
  clear hij hbw
  by_cases hlt : j < n
  ·have hjl : j < s.length := by rw [HN.out]; exact hlt
   obtain ⟨b, off, rfl, hb, hcl⟩ := (HS.out.below BW.out).some (by omega)
   have ci := hcl j hjl
   have hx := HR.out s[j] (List.getElem_mem hjl)
   have HNX := hideP (incs_next (Hf.zeros 257) (Hf.nats s) j (by rw [HNL.out]; exact hjl))
   rw [nats_at s j hjl] at HNX
   generalize s[j] = x at ci hx HNX
   obtain ⟨y, rfl⟩ : ∃ y : Nat, x = y := ⟨x.toNat, by omega⟩
   rw [Int.toNat_natCast] at HNX
   have hlen : y < (incs (Hf.zeros 257) ((Hf.nats s).take j)).length := by rw [incs_length, zeros_length]; omega
   have cl0 : wr.cell? ⟨w.heap.size, y, none⟩ = some (.int .i64 (((incs (Hf.zeros 257) ((Hf.nats s).take j)).getD y 0 : Nat) : Int)) := by
    rw [IJ.out.cell (j := y) (by rw [up_length]; exact hlen), up_at _ _ hlen]
   have zl0 := IJ.out.frozen y
   have hdb := HCL.out j y
   obtain ⟨dv, hdv⟩ : ∃ dv, dv = (incs (Hf.zeros 257) ((Hf.nats s).take j)).getD y 0 := ⟨_, rfl⟩
   have HDV := hideP hdv
   rw [← hdv] at cl0 hdb
   have hdv2 : dv ≤ 400 := by have := HN.out; omega
   have hy : (y : Int) < 257 := by omega
   clear hdv hcl hjl hlen hdb
   go_wp2_with fail
   go_roundw
   case rel =>
    refine ⟨j + 1, by go_num, by omega, ?_, BW.out.setCell (by simp) _⟩
    have := IJ.out.set y ((dv : Int) + 1)
    rw [HNX.out, ← HDV.out, ← up_set]
    exact this
   case measure => simp [intOf]; omega
  ·obtain rfl : j = n := by omega
   have HE : Hid (IsI wr w.heap.size 2 (up (countsN s))) := by
    have := IJ.out
    rw [List.take_of_length_le (by rw [HNL.out, HN.out]; exact Nat.le_refl _)] at this
    exact this
   go_wp2_with fail
   go_ret
   exact ⟨rfl, HE.out, BW.out⟩
def rowT (d : List Nat) : Nat → List Int
 | 0 => []
 | k + 1 => if 0 < d.getD k 0 then rowT d k ++ [(k : Int), ((d.getD k 0 : Nat) : Int)] else rowT d k
theorem rowT_length (d : List Nat) : ∀ k, (rowT d k).length ≤ 2 * k
 | 0 => Nat.le_refl _
 | k + 1 => by
  have := rowT_length d k
  rw [rowT]
  split
  ·rw [List.length_append]
   simp
   omega
  ·omega
theorem rowT_mem (d : List Nat) (m : Nat) (hm : ∀ i, d.getD i 0 ≤ m) : ∀ k x, x ∈ rowT d k → 0 ≤ x ∧ (x ≤ k ∨ x ≤ m)
 | 0, x, h => absurd h (List.not_mem_nil)
 | k + 1, x, h => by
  rw [rowT] at h
  split at h
  ·rcases List.mem_append.1 h with h | h
   ·have := rowT_mem d m hm k x h
    omega
   ·have := hm k
    generalize d.getD k 0 = y at h this
    rcases List.mem_cons.1 h with rfl | h
    ·omega
    ·rw [List.mem_singleton.1 h]
     omega
  ·have := rowT_mem d m hm k x h
   omega
theorem two_newI (W : World) (x y : Int) (t : TypeId) : ∀ (j : Nat) (u : Value), [Value.int .i64 x, Value.int .i64 y][j]? = some u → (W.alloc (.cells #[.int .i64 x, .int .i64 y] t)).cell? ((⟨W.heap.size, 0, none⟩ : Addr).add j) = some u := by
 intro j u hj
 match j, hj with
 | 0, hj => simp at hj; subst hj; simp [Addr.add]
 | 1, hj => simp at hj; subst hj; simp [Addr.add]
set_option maxRecDepth 100000 in
set_option maxHeartbeats 1000000 in
theorem table_impl (d : List Nat) (a : Option Addr) (cap n : Nat) (w : World) (h : Ints w w.heap.size a (up d)) (hn : d.length = n) (hn2 : n ≤ 257) (hm : ∀ i, d.getD i 0 ≤ 12) :
  Calls Tryz.prog 50 #[.slice a n cap] w fun e w' => e = .returned (.string ⟨(numsL (rowT d n)).toArray⟩) ∧ Below w.heap.size w w' := by
 obtain ⟨i0, hi, hz0, hz1, hz2⟩ := info_parts In.Tryz.infoI2
 have HN := hideP hn
 have HS := hideP h
 have HM := hideP hm
 have HRL := hideP (rowT_length d)
 have HRM := hideP (rowT_mem d 12 hm)
 clear h hn hm
 go_enter Tryz.func50, Tryz.ntmps50
 go_wp2_with fail
 go_loopw [8, 3, 4, 5] (fun iv tv _ _ wr => ∃ j : Nat, iv = .int .i64 j ∧ j ≤ n ∧ OwnI wr w.heap.size tv (rowT d j) ∧ Below w.heap.size w wr) (fun iv _ _ _ _ => n - (intOf iv).toNat)
 case atStart => exact ⟨0, rfl, Nat.zero_le _, OwnI.nil _ _, Below.refl _ _⟩
 case round =>
  obtain ⟨j, rfl, hj, ho, hbw⟩ := hrel
  have O := hideP ho
  have BW := hideP hbw
  have hz := hbw.size
  clear ho hbw
  by_cases hlt : j < n
  ·have hjd : j < d.length := by rw [HN.out]; exact hlt
   obtain ⟨b, off, rfl, hb, hcl⟩ := (HS.out.below BW.out).some (by rw [up_length]; omega)
   have ci := Hf.up_get hcl j hjd
   have hg : d.getD j 0 = d[j] := by rw [List.getD_eq_getElem?_getD, List.getElem?_eq_getElem hjd]; rfl
   have hx := HM.out j
   have HNX : Hid (rowT d (j + 1) = if 0 < d.getD j 0 then rowT d j ++ [(j : Int), ((d.getD j 0 : Nat) : Int)] else rowT d j) := rfl
   rw [← hg] at ci
   have hrl := HRL.out j
   generalize d.getD j 0 = x at ci hx HNX hg
   clear hg hcl hjd
   by_cases h0 : 0 < x
   ·have h0' : (0 : Int) < x := by omega
    rw [if_pos h0] at HNX
    go_wp2_with (at_builtin; refine wpList_append_own _ rfl (.tmp 15) (.tmp 18) 59 rfl w.heap.size 2 i0 (.int .i64 0) 1 8 Tryz.underlying59 hi hz0 hz1 hz2 rfl (by decide) _ _ _ rfl (World.ownsRow.alloc O.out _) ⟨wr.heap.size, 0, none⟩ 2 2 [.int .i64 (j : Nat), .int .i64 (x : Nat)] rfl rfl (two_newI wr _ _ _) (Hf.two_one rfl rfl) (by unfold maxLen; omega) (by omega) (by simp; omega) ?_)
    intro v3 w3 hown hgrow _
    have O3 : Hid (OwnI w3 w.heap.size v3 (rowT d (j + 1))) := by
     rw [HNX.out]
     unfold OwnI
     rw [List.length_append, List.map_append]
     exact hown
    have B3 := hideP (In.app_one BW.out hz (Nat.le_refl _) O.out hgrow)
    clear hown hgrow O
    go_wp2_with fail
    go_roundw
    case rel => exact ⟨j + 1, by go_num, by omega, O3.out, B3.out⟩
    case measure => simp [intOf]; omega
   ·have h0' : x = 0 := by omega
    subst h0'
    rw [if_neg h0] at HNX
    go_wp2_with fail
    go_roundw
    case rel => exact ⟨j + 1, by go_num, by omega, by rw [HNX.out]; exact O.out, BW.out⟩
    case measure => simp [intOf]; omega
  ·obtain rfl : j = n := by omega
   have hrl := HRL.out j
   obtain ⟨x, c, hv, _, hi2⟩ := O.out.ints
   obtain ⟨m, hm⟩ : ∃ m, m = (rowT d j).length := ⟨_, rfl⟩
   have HJ := hideP (nums_any (rowT d j) x c m wr hi2 hm.symm (by omega) (fun y hy => by have := HRM.out j y hy; omega))
   rw [← hm] at hv
   subst hv
   clear hi2 hm
   go_wp2_with fail
   refine HJ.out.mono ?_
   rintro e w2 ⟨rfl, hb2⟩
   have B2 := hideP (BW.out.trans (hb2.mono hz))
   clear hb2
   go_wp2_with fail
   go_ret
   exact ⟨rfl, B2.out⟩
end Go.Proofs.YthbpenanelbbcaaGreatDoor.Pk


/- Plain mathematics of codes: the codes of lengths, one width behind the other, and that each fits its width. -/
namespace Go.Proofs.YthbpenanelbbcaaGreatDoor.Bi
open Go.RowKit
def cnt (l : List Int) (v : Int) : Nat := l.countP fun x => decide (x = v)
theorem cnt_snoc (l : List Int) (v x : Int) : cnt (l ++ [x]) v = cnt l v + if x = v then 1 else 0 := by simp [cnt, List.countP_append, List.countP_cons]
theorem cnt_more {l : List Int} {k : Nat} (h : k < l.length) (v : Int) : cnt (l.take (k + 1)) v = cnt (l.take k) v + if l[k] = v then 1 else 0 := by
 rw [take_more h, cnt_snoc]
theorem cnt_take (l : List Int) (v : Int) (k : Nat) : cnt (l.take k) v ≤ cnt l v := by
 unfold cnt
 exact List.Sublist.countP_le (List.take_sublist k l)
theorem cnt_here {l : List Int} {k : Nat} {v : Int} (h : k < l.length) (e : l[k] = v) : cnt (l.take k) v + 1 ≤ cnt l v := by
 have h1 := cnt_more h v
 rw [if_pos e] at h1
 have h2 := cnt_take l v (k + 1)
 omega
def lowP (v : Nat) (x : Int) : Nat := if 0 < x ∧ x ≤ v then 2 ^ (12 - x.toNat) else 0
def low (l : List Int) (v : Nat) : Nat := (l.map (lowP v)).sum
theorem lowP_succ (v : Nat) (x : Int) : lowP (v + 1) x = lowP v x + (if x = ((v + 1 : Nat) : Int) then 1 else 0) * 2 ^ (12 - (v + 1)) := by
 unfold lowP
 by_cases h : x = ((v + 1 : Nat) : Int)
 ·rw [if_pos h, if_pos (by omega), if_neg (by omega)]
  subst h
  simp
 ·rw [if_neg h]
  by_cases h2 : 0 < x ∧ x ≤ v
  ·rw [if_pos h2, if_pos (by omega)]
   omega
  ·rw [if_neg h2, if_neg (by omega)]
   omega
theorem low_succ (l : List Int) (v : Nat) : low l (v + 1) = low l v + cnt l ((v + 1 : Nat) : Int) * 2 ^ (12 - (v + 1)) := by
 induction l with
 | nil => simp [low, cnt]
 | cons x l ih =>
  simp only [low, List.map_cons, List.sum_cons, cnt, List.countP_cons] at ih ⊢
  rw [ih, lowP_succ, Nat.add_mul]
  by_cases h : x = ((v + 1 : Nat) : Int)
  ·simp only [h, if_true, decide_true]
   omega
  ·simp only [h, if_false, decide_false, Bool.false_eq_true]
   omega
theorem low_zero (l : List Int) : low l 0 = 0 := by
 induction l with
 | nil => rfl
 | cons x l ih =>
  simp only [low, List.map_cons, List.sum_cons] at ih ⊢
  rw [ih, lowP, if_neg (by omega)]
theorem low_le (l : List Int) (v : Nat) : low l v ≤ csum l := by
 induction l with
 | nil => simp [low]
 | cons x l ih =>
  simp only [low, csum, List.map_cons, List.sum_cons] at ih ⊢
  have : lowP v x ≤ part x := by
   unfold lowP part
   generalize 2 ^ (12 - x.toNat) = p
   split <;> split <;> omega
  omega
def innN (l : List Int) (v n0 k : Nat) : Nat := n0 + cnt (l.take k) v
def outN (l : List Int) : Nat → Nat
 | 0 => 0
 | v + 1 => 2 * outN l v + cnt l ((v + 1 : Nat) : Int)
theorem outN_low (l : List Int) : ∀ v, v ≤ 12 → outN l v * 2 ^ (12 - v) = low l v := by
 intro v
 induction v with
 | zero => intro _; simp [outN, low_zero]
 | succ v ih =>
  intro hv
  rw [low_succ, ← ih (by omega)]
  simp only [outN]
  rw [Nat.add_mul, show 12 - v = 12 - (v + 1) + 1 by omega, Nat.pow_succ, Nat.mul_comm 2 (outN l v), Nat.mul_assoc, Nat.mul_comm 2]
theorem inn_fits {l : List Int} (hr : csum l ≤ 4096) {v k : Nat} (hv : v < 12) (hk : k < l.length) (e : l[k] = ((v + 1 : Nat) : Int)) : innN l (v + 1) (2 * outN l v) k < 2 ^ (v + 1) := by
 have h1 := cnt_here hk e
 have h2 := outN_low l (v + 1) (by omega)
 have h3 := low_le l (v + 1)
 have h4 : (2 : Nat) ^ (v + 1) * 2 ^ (12 - (v + 1)) = 4096 := by
  rw [← Nat.pow_add, show v + 1 + (12 - (v + 1)) = 12 by omega]
 have h5 : outN l (v + 1) * 2 ^ (12 - (v + 1)) ≤ 2 ^ (v + 1) * 2 ^ (12 - (v + 1)) := by rw [h2, h4]; omega
 have h6 : outN l (v + 1) ≤ 2 ^ (v + 1) := Nat.le_of_mul_le_mul_right h5 (Nat.pow_pos (by decide))
 simp only [outN] at h6
 unfold innN
 omega
theorem out_fits {l : List Int} (hr : csum l ≤ 4096) {v : Nat} (hv : v ≤ 12) : outN l v ≤ 2 ^ v := by
 have h2 := outN_low l v hv
 have h3 := low_le l v
 have h4 : (2 : Nat) ^ v * 2 ^ (12 - v) = 4096 := by
  rw [← Nat.pow_add, show v + (12 - v) = 12 by omega]
 have h5 : outN l v * 2 ^ (12 - v) ≤ 2 ^ v * 2 ^ (12 - v) := by rw [h2, h4]; omega
 exact Nat.le_of_mul_le_mul_right h5 (Nat.pow_pos (by decide))
theorem out_small {l : List Int} (hr : csum l ≤ 4096) {v : Nat} (hv : v ≤ 12) : outN l v ≤ 4096 := by
 have h1 := out_fits hr hv
 have h2 := Nat.pow_le_pow_right (n := 2) (by decide) hv
 omega
theorem innN_zero (l : List Int) (v n0 : Nat) : innN l v n0 0 = n0 := by simp [innN, cnt]
theorem innN_yes {l : List Int} {v n0 k : Nat} (h : k < l.length) (e : l[k] = (v : Int)) : innN l v n0 (k + 1) = innN l v n0 k + 1 := by
 unfold innN
 rw [cnt_more h, if_pos e]
 omega
theorem innN_no {l : List Int} {v n0 k : Nat} (h : k < l.length) (e : ¬ l[k] = (v : Int)) : innN l v n0 (k + 1) = innN l v n0 k := by
 unfold innN
 rw [cnt_more h, if_neg e]
 omega
theorem innN_all (l : List Int) (v : Nat) : innN l (v + 1) (2 * outN l v) l.length = outN l (v + 1) := by
 unfold innN
 rw [List.take_length]
 rfl
theorem innN_le (l : List Int) (v n0 k : Nat) : innN l v n0 k ≤ n0 + l.length := by
 unfold innN cnt
 have := List.countP_le_length (p := fun x => decide (x = (v : Int))) (l := l.take k)
 rw [List.length_take] at this
 omega
def innO (l : List Int) (v n0 : Nat) (o : List ByteArray) : Nat → List ByteArray
 | 0 => o
 | k + 1 => if l[k]? = some (v : Int) then (innO l v n0 o k).set k (bitsV (innN l v n0 k) v) else innO l v n0 o k
def outO (l : List Int) : Nat → List ByteArray
 | 0 => List.replicate l.length ⟨#[]⟩
 | v + 1 => innO l (v + 1) (2 * outN l v) (outO l v) l.length
def codesV (l : List Int) : List ByteArray := outO l 12
def codesR (l : List Int) : List ByteArray := if right l = true then codesV l else []
theorem innO_length (l : List Int) (v n0 : Nat) (o : List ByteArray) : ∀ k, (innO l v n0 o k).length = o.length := by
 intro k
 induction k with
 | zero => rfl
 | succ k ih =>
  simp only [innO]
  split
  ·rw [List.length_set, ih]
  ·exact ih
theorem outO_length (l : List Int) : ∀ v, (outO l v).length = l.length := by
 intro v
 induction v with
 | zero => simp [outO]
 | succ v ih => simp only [outO]; rw [innO_length, ih]
theorem codesV_length (l : List Int) : (codesV l).length = l.length := outO_length l 12
theorem innO_yes {l : List Int} {v n0 k : Nat} {o : List ByteArray} (h : k < l.length) (e : l[k] = (v : Int)) : innO l v n0 o (k + 1) = (innO l v n0 o k).set k (bitsV (innN l v n0 k) v) := by
 simp only [innO]
 rw [if_pos (by rw [List.getElem?_eq_getElem h, e])]
theorem innO_no {l : List Int} {v n0 k : Nat} {o : List ByteArray} (h : k < l.length) (e : ¬ l[k] = (v : Int)) : innO l v n0 o (k + 1) = innO l v n0 o k := by
 simp only [innO]
 rw [if_neg (by rw [List.getElem?_eq_getElem h]; simp; exact e)]
end Go.Proofs.YthbpenanelbbcaaGreatDoor.Bi


/- Plain mathematics of codes put one behind the other. -/
namespace Go.Proofs.YthbpenanelbbcaaGreatDoor.Bi
open Go.RowKit
open Go.Proofs.YthbpenanelbbcaaGreatDoor.Sh (bt strF)
theorem innO_get (l : List Int) (v n0 : Nat) (o : List ByteArray) (i : Nat) (hi : i < l.length) (ho : o.length = l.length) : ∀ k, k ≤ l.length →
  (innO l v n0 o k)[i]? = if i < k ∧ l[i] = (v : Int) then some (bitsV (innN l v n0 i) v) else o[i]? := by
 intro k
 induction k with
 | zero => intro _; simp [innO]
 | succ k ih =>
  intro hk
  by_cases e : l[k] = (v : Int)
  ·rw [innO_yes (by omega) e, List.getElem?_set]
   by_cases hik : k = i
   ·subst hik
    rw [if_pos rfl, if_pos (by rw [innO_length, ho]; exact hi), if_pos ⟨by omega, e⟩]
   ·rw [if_neg hik, ih (by omega)]
    have : (i < k + 1 ∧ l[i] = (v : Int)) = (i < k ∧ l[i] = (v : Int)) := propext ⟨fun h => ⟨by omega, h.2⟩, fun h => ⟨by omega, h.2⟩⟩
    simp only [this]
  ·rw [innO_no (by omega) e, ih (by omega)]
   by_cases hik : k = i
   ·subst hik
    rw [if_neg (fun h => e h.2), if_neg (fun h => e h.2)]
   ·have : (i < k + 1 ∧ l[i] = (v : Int)) = (i < k ∧ l[i] = (v : Int)) := propext ⟨fun h => ⟨by omega, h.2⟩, fun h => ⟨by omega, h.2⟩⟩
    simp only [this]
def cnum (l : List Int) (i : Nat) : Nat := innN l (l.getD i 0).toNat (2 * outN l ((l.getD i 0).toNat - 1)) i
def codeOf (l : List Int) (i : Nat) : ByteArray := if 0 < l.getD i 0 then bitsV (cnum l i) (l.getD i 0).toNat else ⟨#[]⟩
theorem outO_get (l : List Int) (i : Nat) (hi : i < l.length) : ∀ v, v ≤ 12 → (outO l v)[i]? = some (if 0 < l[i] ∧ l[i] ≤ (v : Int) then codeOf l i else ⟨#[]⟩) := by
 have hg : l.getD i 0 = l[i] := by rw [List.getD_eq_getElem?_getD, List.getElem?_eq_getElem hi]; rfl
 intro v
 induction v with
 | zero =>
  intro _
  rw [if_neg (by omega)]
  simp [outO, hi]
 | succ v ih =>
  intro hv
  simp only [outO]
  rw [innO_get l (v + 1) _ _ i hi (outO_length l v) l.length (Nat.le_refl _), ih (by omega)]
  by_cases e : l[i] = ((v + 1 : Nat) : Int)
  ·rw [if_pos ⟨hi, e⟩, if_pos (by omega)]
   unfold codeOf cnum
   rw [hg, if_pos (by omega), e]
   simp
  ·rw [if_neg (fun h => e h.2)]
   have : (0 < l[i] ∧ l[i] ≤ ((v + 1 : Nat) : Int)) = (0 < l[i] ∧ l[i] ≤ (v : Int)) := propext ⟨fun h => ⟨h.1, by omega⟩, fun h => ⟨h.1, by omega⟩⟩
   simp only [this]
theorem codes_get (l : List Int) (h : ∀ x ∈ l, 0 ≤ x ∧ x ≤ 12) (i : Nat) (hi : i < (codesV l).length) : (codesV l)[i] = codeOf l i := by
 have hi' : i < l.length := by rw [codesV_length] at hi; exact hi
 have h1 := outO_get l i hi' 12 (Nat.le_refl _)
 have h2 := h _ (List.getElem_mem hi')
 have hg : l.getD i 0 = l[i] := by rw [List.getD_eq_getElem?_getD, List.getElem?_eq_getElem hi']; rfl
 have h3 : (codesV l)[i]? = some (codesV l)[i] := List.getElem?_eq_getElem hi
 have h4 : (codesV l)[i]? = (outO l 12)[i]? := rfl
 rw [h3, h1] at h4
 have h5 := Option.some.inj h4
 rw [h5]
 by_cases hp : 0 < l[i]
 ·rw [if_pos ⟨hp, by omega⟩]
 ·rw [if_neg (fun x => hp x.1)]
  unfold codeOf
  rw [hg, if_neg hp]
theorem codeOf_size (l : List Int) (i : Nat) : (codeOf l i).size = (l.getD i 0).toNat := by
 unfold codeOf
 split
 ·exact bitsV_size _ _
 ·have : (l.getD i 0).toNat = 0 := by omega
  rw [this]
  rfl
theorem codeOf_le (l : List Int) (h : ∀ x ∈ l, 0 ≤ x ∧ x ≤ 12) (i : Nat) : (codeOf l i).size ≤ 12 := by
 rw [codeOf_size]
 by_cases hi : i < l.length
 ·have hg : l.getD i 0 = l[i] := by rw [List.getD_eq_getElem?_getD, List.getElem?_eq_getElem hi]; rfl
  have := h _ (List.getElem_mem hi)
  rw [hg]
  omega
 ·rw [List.getD_eq_getElem?_getD, List.getElem?_eq_none (by omega)]
  decide
theorem codeOf_none (l : List Int) (i : Nat) (h : ¬ 0 < l.getD i 0) : codeOf l i = ⟨#[]⟩ := if_neg h
def okS (l : List Int) (x : Int) : Prop := 0 ≤ x ∧ x < l.length ∧ 0 < l.getD x.toNat 0
instance (l : List Int) (x : Int) : Decidable (okS l x) := inferInstanceAs (Decidable (_ ∧ _ ∧ _))
def putL (l : List Int) (s : List Int) : List UInt8 := s.flatMap fun x => (codeOf l x.toNat).data.toList
def putR (l s : List Int) : ByteArray := if 400 < s.length ∨ whole l = false ∨ ¬ (∀ x ∈ s, okS l x) then ⟨#[]⟩ else ⟨(putL l s).toArray⟩
theorem putR_no {l s : List Int} (h : 400 < s.length ∨ whole l = false) : putR l s = ⟨#[]⟩ := if_pos (by rcases h with h | h; exact Or.inl h; exact Or.inr (Or.inl h))
theorem putR_bad {l s : List Int} {j : Nat} (hj : j < s.length) (h : ¬ okS l s[j]) : putR l s = ⟨#[]⟩ := if_pos (Or.inr (Or.inr fun g => h (g _ (List.getElem_mem hj))))
theorem putR_yes {l s : List Int} (h1 : ¬ 400 < s.length) (h2 : whole l = true) (h3 : ∀ x ∈ s, okS l x) : putR l s = ⟨(putL l s).toArray⟩ := if_neg (by
 rintro (h | h | h)
 ·exact h1 h
 ·rw [h2] at h; cases h
 ·exact h h3)
theorem putL_snoc (l s : List Int) (x : Int) : putL l (s ++ [x]) = putL l s ++ (codeOf l x.toNat).data.toList := by simp [putL]
theorem putL_more {l s : List Int} {k : Nat} (h : k < s.length) : putL l (s.take (k + 1)) = putL l (s.take k) ++ (codeOf l s[k].toNat).data.toList := by
 rw [take_more h, putL_snoc]
theorem putL_le (l : List Int) (h : ∀ x ∈ l, 0 ≤ x ∧ x ≤ 12) (s : List Int) : (putL l s).length ≤ 12 * s.length := by
 induction s with
 | nil => simp [putL]
 | cons x s ih =>
  have h1 := codeOf_le l h x.toNat
  have h2 : (codeOf l x.toNat).data.toList.length = (codeOf l x.toNat).size := by simp
  simp only [putL, List.flatMap_cons, List.length_append, List.length_cons] at ih ⊢
  omega
theorem whole_right {l : List Int} (h : whole l = true) : right l = true := by
 unfold whole at h
 rw [Bool.and_eq_true] at h
 exact h.1
theorem whole_ok {l : List Int} (h : whole l = true) : ∀ x ∈ l, 0 ≤ x ∧ x ≤ 12 := (within_yes (right_yes (whole_right h)).1).2
theorem whole_len {l : List Int} (h : whole l = true) : l.length ≤ 257 := (within_yes (right_yes (whole_right h)).1).1
end Go.Proofs.YthbpenanelbbcaaGreatDoor.Bi


/- Plain mathematics of bits in bytes: eight bits a byte, the first one highest. -/
namespace Go.Proofs.YthbpenanelbbcaaGreatDoor.Bi
open Go.RowKit
open Go.Proofs.YthbpenanelbbcaaGreatDoor.Sh
def good (t : ByteArray) : Bool := decide (∀ j, j < t.size → bt t j = 48 ∨ bt t j = 49)
theorem good_yes {t : ByteArray} (h : good t = true) : ∀ j, j < t.size → bt t j = 48 ∨ bt t j = 49 := of_decide_eq_true h
theorem good_of {t : ByteArray} (h : ∀ j, j < t.size → bt t j = 48 ∨ bt t j = 49) : good t = true := decide_eq_true h
theorem good_not {t : ByteArray} {j : Nat} (h : j < t.size) (h1 : bt t j ≠ 48) (h2 : bt t j ≠ 49) : good t = false := decide_eq_false fun g => by
 rcases g j h with e | e
 ·exact h1 e
 ·exact h2 e
def one (t : ByteArray) (i : Nat) : Nat := if i < t.size ∧ bt t i = 49 then 1 else 0
def pk (t : ByteArray) (q : Nat) : Nat → Nat
 | 0 => 0
 | r + 1 => pk t q r + one t (8 * q + r) * 2 ^ (7 - r)
theorem one_le (t : ByteArray) (i : Nat) : one t i ≤ 1 := by unfold one; split <;> omega
theorem pk_mul (t : ByteArray) (q : Nat) : ∀ r, r ≤ 8 → ∃ n, pk t q r = n * 2 ^ (8 - r) ∧ n < 2 ^ r := by
 intro r
 induction r with
 | zero => intro _; exact ⟨0, by simp [pk], by decide⟩
 | succ r ih =>
  intro hr
  obtain ⟨n, h1, h2⟩ := ih (by omega)
  have h3 := one_le t (8 * q + r)
  refine ⟨2 * n + one t (8 * q + r), ?_, by rw [Nat.pow_succ]; omega⟩
  have e : 8 - r = 7 - r + 1 := by omega
  have e2 : 8 - (r + 1) = 7 - r := by omega
  simp only [pk]
  rw [h1, e, Nat.pow_succ, e2, Nat.add_mul, Nat.mul_comm (2 ^ (7 - r)) 2, ← Nat.mul_assoc, Nat.mul_comm n 2]
theorem pk_lt (t : ByteArray) (q r : Nat) (hr : r ≤ 8) : pk t q r < 256 := by
 obtain ⟨n, h1, h2⟩ := pk_mul t q r hr
 rw [h1]
 have h3 : n * 2 ^ (8 - r) < 2 ^ r * 2 ^ (8 - r) := Nat.mul_lt_mul_of_pos_right h2 (Nat.pow_pos (by decide))
 rw [← Nat.pow_add, show r + (8 - r) = 8 by omega] at h3
 omega
def packV (t : ByteArray) : ByteArray := strF ((t.size + 7) / 8) (fun q => pk t q 8)
def packR (t : ByteArray) : ByteArray := if 8000 < t.size ∨ good t = false then ⟨#[]⟩ else packV t
theorem packR_no (t : ByteArray) (h : 8000 < t.size ∨ good t = false) : packR t = ⟨#[]⟩ := if_pos h
theorem packR_yes (t : ByteArray) (h : ¬ 8000 < t.size) (h2 : good t = true) : packR t = packV t := if_neg (by rw [h2]; simp; omega)
def pkK (t : ByteArray) (k q : Nat) : Nat := pk t q (min 8 (k - 8 * q))
theorem pkK_lt (t : ByteArray) (k q : Nat) : pkK t k q < 256 := pk_lt t q _ (Nat.min_le_left _ _)
theorem pkK_zero (t : ByteArray) (q : Nat) : pkK t 0 q = 0 := by simp [pkK, pk]
theorem pkK_other (t : ByteArray) (k q : Nat) (h : q ≠ k / 8) : pkK t (k + 1) q = pkK t k q := by
 unfold pkK
 congr 1
 omega
theorem pkK_here (t : ByteArray) (k : Nat) : pkK t k (k / 8) = pk t (k / 8) (k % 8) := by
 unfold pkK
 congr 1
 omega
theorem pkK_next (t : ByteArray) (k : Nat) : pkK t (k + 1) (k / 8) = pk t (k / 8) (k % 8) + one t k * 2 ^ (7 - k % 8) := by
 have e : min 8 (k + 1 - 8 * (k / 8)) = k % 8 + 1 := by omega
 unfold pkK
 rw [e]
 simp only [pk]
 rw [show 8 * (k / 8) + k % 8 = k by omega]
theorem pkK_set (t : ByteArray) (k q : Nat) (v : Int) (h : one t k = 1) (hv : v = ((pk t (k / 8) (k % 8) + 2 ^ (7 - k % 8) : Nat) : Int)) : upd (fun j => ((pkK t k j : Nat) : Int)) (k / 8) v q = (pkK t (k + 1) q : Nat) := by
 subst hv
 unfold upd
 by_cases e : q = k / 8
 ·subst e
  rw [if_pos rfl, pkK_next, h, Nat.one_mul]
 ·rw [if_neg e, pkK_other t k q e]
theorem pkK_skip (t : ByteArray) (k q : Nat) (h : one t k = 0) : ((pkK t k q : Nat) : Int) = (pkK t (k + 1) q : Nat) := by
 by_cases e : q = k / 8
 ·subst e
  rw [pkK_next, h, Nat.zero_mul, pkK_here]
  rfl
 ·rw [pkK_other t k q e]
theorem one_behind (t : ByteArray) (i : Nat) (h : t.size ≤ i) : one t i = 0 := by unfold one; rw [if_neg (by omega)]
theorem pk_behind (t : ByteArray) (q r : Nat) (h : t.size ≤ 8 * q + r) : ∀ d, pk t q (r + d) = pk t q r := by
 intro d
 induction d with
 | zero => rfl
 | succ d ih =>
  rw [← Nat.add_assoc]
  simp only [pk]
  rw [one_behind t _ (by omega), ih]
  omega
theorem pkK_all (t : ByteArray) (q : Nat) : pkK t t.size q = pk t q 8 := by
 unfold pkK
 by_cases e : 8 ≤ t.size - 8 * q
 ·rw [Nat.min_eq_left e]
 ·have e2 : min 8 (t.size - 8 * q) = t.size - 8 * q := Nat.min_eq_right (by omega)
  rw [e2]
  have := pk_behind t q (t.size - 8 * q) (by omega) (8 - (t.size - 8 * q))
  rw [show t.size - 8 * q + (8 - (t.size - 8 * q)) = 8 by omega] at this
  exact this.symm
theorem pack_all (t : ByteArray) : strF ((t.size + 7) / 8) (fun q => pkK t t.size q) = packV t := strF_congr _ _ _ fun q _ => pkK_all t q
theorem pk_or (t : ByteArray) (q r : Nat) (h : r < 8) : bits BinOp.or IntKind.u8 ((pk t q r : Nat) : Int) ((2 ^ (7 - r) : Nat) : Int) = ((pk t q r + 2 ^ (7 - r) : Nat) : Int) := by
 obtain ⟨n, h1, h2⟩ := pk_mul t q r (by omega)
 have h3 := pk_lt t q r (by omega)
 have h4 : 2 ^ (7 - r) < 256 := by
  have := Nat.pow_le_pow_right (n := 2) (by decide) (show 7 - r ≤ 7 by omega)
  omega
 rw [u8_or_nat _ _ h3 h4]
 rw [nat_join (8 - r) (pk t q r) (2 ^ (7 - r)) (by rw [h1]; exact Nat.mul_mod_left _ _) (by
  have e : 8 - r = 7 - r + 1 := by omega
  rw [e, Nat.pow_succ]
  have := Nat.pow_pos (n := 7 - r) (a := 2) (by decide)
  omega)]
def hd (t : ByteArray) (q : Nat) : Nat → Nat
 | 0 => 0
 | r + 1 => 2 * hd t q r + one t (8 * q + r)
theorem hd_pk (t : ByteArray) (q : Nat) : ∀ r, r ≤ 8 → pk t q r = hd t q r * 2 ^ (8 - r) := by
 intro r
 induction r with
 | zero => intro _; simp [pk, hd]
 | succ r ih =>
  intro hr
  simp only [pk, hd]
  rw [ih (by omega), show 8 - r = 7 - r + 1 by omega, Nat.pow_succ, show 8 - (r + 1) = 7 - r by omega, Nat.add_mul, Nat.mul_comm (2 ^ (7 - r)) 2, ← Nat.mul_assoc, Nat.mul_comm (hd t q r) 2]
theorem hd_all (t : ByteArray) (q : Nat) : hd t q 8 = pk t q 8 := by
 have := hd_pk t q 8 (Nat.le_refl _)
 simpa using this.symm
theorem hd_lt (t : ByteArray) (q : Nat) : ∀ r, hd t q r < 2 ^ r := by
 intro r
 induction r with
 | zero => exact Nat.lt_succ_self 0
 | succ r ih =>
  have := one_le t (8 * q + r)
  simp only [hd]
  rw [Nat.pow_succ]
  omega
theorem hd_le (t : ByteArray) (q r : Nat) (h : r ≤ 8) : hd t q r < 256 := by
 have h1 := hd_lt t q r
 have h2 := Nat.pow_le_pow_right (n := 2) (by decide) h
 omega
def openV (t : ByteArray) (m : Nat) : ByteArray := strF m (fun i => bitB (bt t (i / 8)) (7 - i % 8))
def openR (t : ByteArray) (m : Int) : ByteArray := if 8000 < t.size ∨ m < 0 ∨ 8 * (t.size : Int) < m then ⟨#[]⟩ else openV t m.toNat
theorem openR_no (t : ByteArray) (m : Int) (h : 8000 < t.size ∨ m < 0 ∨ 8 * (t.size : Int) < m) : openR t m = ⟨#[]⟩ := if_pos h
theorem openR_yes (t : ByteArray) (m : Nat) (h : ¬ 8000 < t.size) (h2 : m ≤ 8 * t.size) : openR t m = openV t m := by
 unfold openR
 rw [if_neg (by omega)]
 rfl
def opK (t : ByteArray) (k i : Nat) : Nat := if i < k then bitB (bt t (i / 8)) (7 - i % 8) else 0
theorem opK_zero (t : ByteArray) (j : Nat) : opK t 0 j = 0 := by simp [opK]
theorem opK_next (t : ByteArray) (k j : Nat) (v : Int) (hv : v = (bitB (bt t (k / 8)) (7 - k % 8) : Nat)) : upd (fun j => ((opK t k j : Nat) : Int)) k v j = (opK t (k + 1) j : Nat) := by
 subst hv
 unfold upd opK
 by_cases e : j = k
 ·subst e; simp
 ·have : (j < k + 1) = (j < k) := propext ⟨fun h => by omega, fun h => by omega⟩
  simp only [e, this, if_false]
theorem opK_all (t : ByteArray) (m : Nat) : strF m (fun j => opK t m j) = openV t m := strF_congr _ _ _ fun j hj => by simp [opK, hj]
theorem opK_lt (t : ByteArray) (k j : Nat) : opK t k j < 256 := by
 unfold opK
 have := bitB_lt (bt t (j / 8)) (7 - j % 8)
 split <;> omega
end Go.Proofs.YthbpenanelbbcaaGreatDoor.Bi

