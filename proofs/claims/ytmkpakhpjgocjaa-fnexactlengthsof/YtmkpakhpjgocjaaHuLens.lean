/- The walk of l04Lengths. -/
import Derived.Test.YtmkpakhpjgocjaaHuJoin
import Derived.Test.YtmkpakhpjgocjaaAppKeep
namespace Go.Proofs.Ytmkpakhpjgocjaa.Hf
open Go.RowKit
open Go.Proofs.Ytmkpakhpjgocjaa.In (IsI irow Ints made_ints)
open Go.Proofs.Ytmkpakhpjgocjaa.Ap (Own0 wpList_append_own0k)

def mxN (d : List Nat) : Nat → Nat
  | 0 => 0
  | j + 1 => max (mxN d j) (d.getD j 0)
theorem mxN_le (d : List Nat) (b : Nat) : ∀ i, mxN d i ≤ b ↔ ∀ j, j < i → d.getD j 0 ≤ b
  | 0 => ⟨fun _ j h => by omega, fun _ => Nat.zero_le _⟩
  | i + 1 => by
    have ih := mxN_le d b i
    rw [mxN]
    constructor
    · intro h j hj
      by_cases e : j = i
      · subst e
        omega
      · exact ih.1 (by omega) j (by omega)
    · intro h
      have h1 := ih.2 fun j hj => h j (by omega)
      have h2 := h i (by omega)
      omega
theorem okay_mx (d : List Nat) : okay d = decide (mxN d d.length ≤ 12) := by
  unfold okay
  by_cases h : mxN d d.length ≤ 12
  · rw [decide_eq_true h, List.all_eq_true]
    intro x hx
    obtain ⟨j, hj, rfl⟩ := List.getElem_of_mem hx
    have := (mxN_le d 12 d.length).1 h j hj
    rw [List.getD_eq_getElem?_getD, List.getElem?_eq_getElem hj] at this
    exact decide_eq_true this
  · rw [decide_eq_false h, Bool.eq_false_iff]
    intro hall
    rw [List.all_eq_true] at hall
    refine h ((mxN_le d 12 d.length).2 fun j hj => ?_)
    rw [List.getD_eq_getElem?_getD, List.getElem?_eq_getElem hj]
    exact of_decide_eq_true (hall _ (List.getElem_mem hj))
theorem max_any (p q : Nat) (w : World) : Calls Try.prog 152 #[.int .i64 p, .int .i64 q] w fun e w' => e = .returned (.int .i64 (max p q : Nat)) ∧ w' = w := by
  by_cases h : q < p
  · have HE : Hid (max p q = p) := by unfold Hid; omega
    rw [HE.out]
    have h' : (q : Int) < p := by omega
    go_enter Try.func152, Try.ntmps152
    go_wp2_with fail
    go_ret
    exact ⟨rfl, rfl⟩
  · have HE : Hid (max p q = q) := by unfold Hid; omega
    rw [HE.out]
    have h' : decide ((q : Int) < p) = false := by simp; omega
    go_enter Try.func152, Try.ntmps152
    go_wp2_with fail
    go_ret
    exact ⟨rfl, rfl⟩
theorem own0_slice {W : World} {e : TypeId} {base size k : Nat} {v : Value} {xs : List Value} (h : Own0 W base e size v k xs) : ∃ x q, v = .slice x k q := by
  rcases h with ⟨b, rfl, rfl, _⟩ | ⟨_, h⟩
  · exact ⟨_, _, rfl⟩
  · rcases h with ⟨h, h0⟩ | ⟨g, q, _, hv, _⟩
    · exact ⟨none, 0, by rw [h, h0]⟩
    · exact ⟨_, q, hv⟩
theorem own0_own {W : World} {e : TypeId} {base : Nat} {v : Value} {m : List MT} (h : Own0 W base e 2 v m.length (cells m)) (h0 : 0 < m.length) : OwnT W e base v m := by
  rcases h with ⟨b, _, h, _⟩ | h
  · omega
  · exact h

theorem join_ne (m : List MT) (h2 : 2 ≤ (mt m).length) (hne : ∀ z ∈ m, 0 < z.1.2.length) (t : Tree) (ht : t ∈ join (mt m)) : 0 < t.2.length := by
  have hall : ∀ u ∈ mt m, 0 < u.2.length := by
    intro u hu
    obtain ⟨z, hz, rfl⟩ := List.mem_map.1 hu
    exact hne z hz
  have hp := two_perm (mt m) h2
  rcases List.mem_cons.1 ((join_perm (mt m)).mem_iff.1 ht) with rfl | hr
  · have := hall (first (mt m)) (hp.mem_iff.2 (List.mem_cons_self ..))
    unfold both
    rw [List.length_append]
    omega
  · exact hall t (hp.mem_iff.2 (List.mem_cons_of_mem _ (List.mem_cons_of_mem _ hr)))

/-- what the loop holds -/
structure LpS (base gl n S : Nat) (w : World) (wr : World) (v : Value) (m : List MT) (d : List Nat) : Prop where
  own : Own0 wr base 140 2 v m.length (cells m)
  sym : Syms wr m
  len : IsI wr gl 2 (up d)
  inv : Inv (mt m) d S
  few : ns (mt m) ≤ n
  dn : d.length = n
  ne : ∀ z ∈ m, 0 < z.1.2.length
  low : Below w.heap.size w wr
  lo : w.heap.size ≤ gl
  hi : gl < base

set_option maxRecDepth 100000 in
set_option maxHeartbeats 1000000 in
theorem lensS_any (a : Option Addr) (cap n : Nat) (c : List Nat) (w : World) (h : Ints w w.heap.size a (up c)) (hn : c.length = n) (h257 : n ≤ 257) (hm : ∀ x ∈ c, x ≤ 10000) :
    Calls Try.prog 129 #[.slice a n cap] w fun e w' => e = .returned (.tuple #[.slice (some ⟨w.heap.size, 0, none⟩) n n, .int .i64 (mxN (depths c) n : Nat)]) ∧ IsI w' w.heap.size 2 (up (depths c)) ∧ Below w.heap.size w w' := by
  obtain ⟨i0, hi, hz0, hz1, hz2⟩ := info_parts In.Try.infoI2
  obtain ⟨j0, hji, hj0, hj1, hj2⟩ := info_parts Try.infoTreeS
  have HN := hideH hn
  have HS := hideH h
  have HSUM := hideH (sum_all c (by omega) hm)
  have HINV := hideH (trees_inv c n (by omega))
  have HNS := hideH (ns_trees c n)
  have HDE : Hid (depths c = if (trees c n).length = 1 then (zeros n).set ((at0 (trees c n) 0).2.getD 0 0) 1 else run (trees c n).length (trees c n) (zeros n)) := by
    unfold Hid
    rw [← hn]
    rfl
  have HTK : Hid ((c.take n).sum = c.sum) := by
    unfold Hid
    rw [← hn, List.take_length]
  clear hn h hm
  go_enter Try.func129, Try.ntmps129
  go_wp2_with (at_make; refine wpList_make_full _ rfl (.tmp 10) (.tmp 10) 23 rfl w.heap.size 2 i0 (.int .i64 0) 1 Try.underlying23 hi hz0 hz1 .i64 .i64 _ _ n rfl rfl (by omega) (by omega) (by rw [hz2]; omega) (by unfold maxLen; omega) (Nat.le_refl _) ?_; intro w1 hown hgrow; have HI1 := hideH (made_ints hown); have HB1 := hideH ((Below.refl w.heap.size w).grown hgrow (Nat.le_refl _) (by simp)); have hz1w := (made_ints hown).lt; clear hown hgrow)
  have HS1 := hideH (((HS.out.below HB1.out).mono HB1.out.size))
  clear HS
  go_loopw [6, 5] (fun iv tv wr => ∃ (j : Nat) (m : List MT), iv = .int .i64 j ∧ j ≤ n ∧ mt m = trees c j ∧ Own0 wr w1.heap.size 140 2 tv m.length (cells m) ∧ Syms wr m ∧ Below w1.heap.size w1 wr) (fun iv _ _ => n - (intOf iv).toNat)
  case atStart => exact ⟨0, [], rfl, Nat.zero_le _, rfl, .inl ⟨_, rfl, rfl, rfl⟩, fun x hx => absurd hx (List.not_mem_nil), (Below.refl _ _).alloc (Nat.le_refl _) _⟩
  case round =>
    obtain ⟨j, m, rfl, hj, hmt, ho, hy, hbw⟩ := hrel
    have HM := hideH hmt
    have HO := hideH ho
    have HY := hideH hy
    have HBW := hideH hbw
    have hwz := hbw.size
    have hml : m.length ≤ j := by rw [← mt_length, hmt]; exact trees_length c j
    clear hmt ho hy hbw
    by_cases hlt : j < n
    · have hjc : j < c.length := by rw [HN.out]; exact hlt
      obtain ⟨b, off, rfl, hbz, hcl⟩ := HS1.out.some (by rw [up_length]; omega)
      have ci : wr.cell? ⟨b, off + j, none⟩ = some (.int .i64 (c[j] : Nat)) := (HBW.out.cell (p := ⟨b, off + j, none⟩) hbz).trans (up_get hcl j hjc)
      have HT1 := hideH (trees_yes c j hjc)
      have HT0 := hideH (trees_no c j hjc)
      generalize c[j] = cj at ci HT1 HT0
      clear hcl hjc
      by_cases h0 : 0 < cj
      · have h0' : (0 : Int) < (cj : Int) := by omega
        go_wp2_with (at_builtin; refine wpList_append_own0k _ rfl (.tmp 24) (.tmp 32) 138 rfl w1.heap.size 140 j0 _ 2 32 Try.underlying138 hji hj0 hj1 hj2 rfl (by decide) _ _ _ rfl ((HO.out.alloc _).alloc _) ⟨wr.heap.size + 1, 0, none⟩ 1 1 [.int .i64 (cj : Nat), .slice (some ⟨wr.heap.size, 0, none⟩) 1 1] rfl rfl ?c1 (two_one rfl rfl) (by decide) (by unfold maxLen; omega) (by omega) (by simp; omega) ?_)
        case c1 =>
          have := two_new (wr.alloc (.cells #[.int .i64 (j : Nat)] 3)) (.int .i64 (cj : Nat)) (.slice (some ⟨wr.heap.size, 0, none⟩) 1 1) 140
          simpa using this
        intro v' w2 hown hbel hkp
        have HO2 : Hid (Own0 w2 w1.heap.size 140 2 v' (m ++ [(((cj, [j]), .slice (some ⟨wr.heap.size, 0, none⟩) 1 1) : MT)]).length (cells (m ++ [((cj, [j]), .slice (some ⟨wr.heap.size, 0, none⟩) 1 1)]))) := .inr (OwnT.snoc (x := ((cj, [j]), .slice (some ⟨wr.heap.size, 0, none⟩) 1 1)) hown)
        have HB2 : Hid (Below w1.heap.size w1 w2) := ((HBW.out.alloc hwz _).alloc (by simp; omega) _).trans (hbel _ (Nat.le_refl _))
        have hk1 : Keeps wr (wr.alloc (.cells #[.int .i64 (j : Nat)] 3)) := Keeps.below ((Below.refl _ _).alloc (Nat.le_refl _) _)
        have hk2 := hk1.trans (Keeps.below ((Below.refl _ (wr.alloc (.cells #[.int .i64 (j : Nat)] 3))).alloc (Nat.le_refl _) (.cells #[.int .i64 (cj : Nat), .slice (some ⟨wr.heap.size, 0, none⟩) 1 1] 140)))
        have hk3 : Keeps ((wr.alloc (.cells #[.int .i64 (j : Nat)] 3)).alloc (.cells #[.int .i64 (cj : Nat), .slice (some ⟨wr.heap.size, 0, none⟩) 1 1] 140)) w2 := fun g' cur' e' => hkp g' cur' _ (by decide) e'
        have HY2 : Hid (Syms w2 (m ++ [((cj, [j]), .slice (some ⟨wr.heap.size, 0, none⟩) 1 1)])) := by
          intro x hx
          rcases List.mem_append.1 hx with hx | hx
          · exact (HY.out x hx).keeps (hk2.trans hk3)
          · rw [List.mem_singleton.1 hx]
            exact ((Sym.one wr j).keeps (Keeps.below ((Below.refl _ _).alloc (Nat.le_refl _) _))).keeps hk3
        clear hown hbel hkp hk1 hk2 hk3
        go_wp2_with fail
        go_roundw
        case rel => exact ⟨j + 1, m ++ [((cj, [j]), .slice (some ⟨wr.heap.size, 0, none⟩) 1 1)], by go_num, by omega, by rw [HT1.out h0, ← HM.out]; unfold mt; rw [List.map_append]; rfl, HO2.out, HY2.out, HB2.out⟩
        case measure => simp [intOf]; omega
      · have h0' : cj = 0 := by omega
        subst h0'
        go_wp2_with fail
        go_roundw
        case rel => exact ⟨j + 1, m, by go_num, by omega, by rw [HT0.out h0]; exact HM.out, HO.out, HY.out, HBW.out⟩
        case measure => simp [intOf]; omega
    · obtain rfl : j = n := by omega
      have hlen : w1.heap.size ≤ wr.heap.size := hwz
      have HLP : Hid (LpS w1.heap.size w.heap.size j c.sum w wr u5 m (zeros j)) := ⟨HO.out, HY.out, by
        have : up (zeros j) = List.replicate j 0 := by unfold up zeros; rw [List.map_replicate]; rfl
        rw [this]
        exact HI1.out.below HBW.out hz1w, by
        have := HINV.out
        rw [HN.out, HTK.out] at this
        rw [HM.out]
        exact this, by rw [HM.out]; exact HNS.out, List.length_replicate .., fun z hz => by
        obtain ⟨i, _, _, e⟩ := trees_mem c j z.1 (by rw [← HM.out]; exact List.mem_map.2 ⟨z, hz, rfl⟩)
        rw [e]
        exact Nat.zero_lt_one, HB1.out.trans (HBW.out.mono HB1.out.size), Nat.le_refl _, hz1w⟩
      obtain ⟨x2, q2, hv2⟩ := own0_slice HLP.out.own
      subst hv2
      clear HO HY HBW HI1 HS1
      generalize wr = w2 at HLP hlen ⊢
      have HMT := hideH HM.out
      clear HM
      obtain ⟨k, hk⟩ : ∃ k, k = m.length := ⟨_, rfl⟩
      have HK := hideH hk
      rw [← hk] at hml HLP ⊢
      clear hk
      by_cases h1 : k = 1
      · subst h1
        obtain ⟨y, hy⟩ := List.length_eq_one_iff.1 HK.out.symm
        subst hy
        obtain ⟨g, q', cur, hv, hgb, hmc, hmx, hbk, hcs, hct⟩ := (own0_own (m := [y]) HLP.out.own Nat.zero_lt_one).parts Nat.zero_lt_one
        obtain ⟨rfl, rfl⟩ : x2 = some ⟨g, 0, none⟩ ∧ q2 = q' := by simp at hv; exact hv
        have hr := row_at (m := [y]) hbk hct 0 Nat.zero_lt_one
        obtain ⟨jj, hjn, _, hye⟩ := trees_mem c j y.1 (by rw [← HMT.out]; exact List.mem_map.2 ⟨y, List.mem_singleton.2 rfl, rfl⟩)
        have hsy := HLP.out.sym y (List.mem_singleton.2 rfl)
        have HTE : Hid (trees c j = [y.1]) := HMT.out.symm
        obtain ⟨⟨yw, ys⟩, yv⟩ := y
        simp only at hr hye hsy HTE
        obtain ⟨rfl, rfl⟩ := Prod.mk.inj hye
        obtain ⟨gs, cs, cu, rfl, hgs, hsc, hsv⟩ := hsy
        have hs0 : w2.cell? ⟨gs, 0, none⟩ = some (.int .i64 (jj : Nat)) := (cell_of_row w2 gs 0 _ _ _ hgs).trans (hsv 0 Nat.zero_lt_one)
        have hlz : jj < (zeros j).length := by rw [HLP.out.dn]; exact hjn
        have cl0 : w2.cell? ⟨w.heap.size, jj, none⟩ = some (.int .i64 (((zeros j).getD jj 0 : Nat) : Int)) := by
          rw [HLP.out.len.cell (j := jj) (by rw [up_length]; exact hlz), up_at _ _ hlz]
        have zl0 := HLP.out.len.frozen jj
        generalize (zeros j).getD jj 0 = old at cl0
        have HD1 : Hid (depths c = (zeros j).set jj 1) := by
          have := HDE.out
          rw [HTE.out] at this
          exact this
        have I3 : Hid (IsI (w2.setCell ⟨w.heap.size, jj, none⟩ (.int .i64 1)) w.heap.size 2 (up (depths c))) := by
          have := HLP.out.len.set jj 1
          unfold Hid
          rw [HD1.out]
          rw [show ((1 : Int)) = ((1 : Nat) : Int) from rfl, up_set] at this
          exact this
        have B3 : Hid (Below w.heap.size w (w2.setCell ⟨w.heap.size, jj, none⟩ (.int .i64 1))) := HLP.out.low.setCell (by simp) _
        obtain ⟨r0, r1⟩ := hr
        rw [Nat.zero_mul] at r0
        rw [show 0 * 2 + 1 = 1 from rfl] at r1
        have hjn' : (jj : Int) < j := by omega
        clear hbk hcs hct hgs hsv hlz hmx HINV HNS HDE HLP
        go_wp2_with fail
        clear cl0 zl0 r0 r1 hs0
        generalize w2.setCell ⟨w.heap.size, jj, none⟩ (.int .i64 1) = w4 at I3 B3 ⊢
        go_loopw [5] (fun tv wr => tv = .slice (some ⟨g, 0, none⟩) 1 q2 ∧ wr = w4) (fun _ _ => 0)
        case atStart => exact ⟨rfl, rfl⟩
        case round =>
          obtain ⟨rfl, hw⟩ := hrel
          subst wr
          go_wp2_with fail
          have DL := hideH ((depths_length c).trans HN.out)
          generalize hD : depths c = D at I3 DL
          have HD := hideH hD
          clear hD
          generalize w4 = wz at I3 B3 ⊢
          go_loopw [8, 7] (fun iv mv wr => ∃ i : Nat, iv = .int .i64 i ∧ i ≤ j ∧ mv = .int .i64 (mxN D i : Nat) ∧ wr = wz) (fun iv _ _ => j - (intOf iv).toNat)
          case atStart => exact ⟨0, rfl, Nat.zero_le _, rfl, rfl⟩
          case round =>
            obtain ⟨i, rfl, hi3, rfl, hw⟩ := hrel
            subst wr
            by_cases hlt3 : i < j
            · have hil : i < D.length := by rw [DL.out]; exact hlt3
              have ci : wz.cell? ⟨w.heap.size, i, none⟩ = some (.int .i64 (D.getD i 0 : Nat)) := by
                rw [I3.out.cell (j := i) (by rw [up_length]; exact hil), up_at _ _ hil]
              have NX : Hid (mxN D (i + 1) = max (mxN D i) (D.getD i 0)) := rfl
              have hii : (i : Int) < j := by omega
              generalize D.getD i 0 = x at ci NX
              generalize mxN D i = p at NX ⊢
              clear hil
              go_wp2_with fail
              refine (max_any p x wz).mono ?_
              rintro e w8 ⟨rfl, hw8⟩
              subst w8
              go_wp2_with fail
              go_roundw
              case rel => exact ⟨i + 1, by go_num, by omega, by rw [NX.out], by trivial⟩
              case measure => simp [intOf]; omega
            · obtain rfl : i = j := by omega
              go_wp2_with fail
              go_ret2
              exact ⟨by rw [HD.out]; rfl, by rw [HD.out]; exact I3.out, B3.out⟩
      · have h1' : ((k : Int) == 1) = false := by simp; omega
        have HRUN : Hid (depths c = run m.length (mt m) (zeros j)) := by
          have := HDE.out
          rw [← HMT.out, mt_length, ← HK.out, if_neg h1] at this
          rw [← HK.out]
          exact this
        go_wp2_with fail
        go_loopw [5] (fun tv wr => ∃ (m : List MT) (d : List Nat) (x : Option Addr) (k q : Nat), tv = .slice x k q ∧ k = m.length ∧ k ≤ j ∧ depths c = run m.length (mt m) d ∧ LpS w1.heap.size w.heap.size j c.sum w wr (.slice x k q) m d) (fun tv _ => match tv with | .slice _ k _ => k | _ => 0)
        case atStart => exact ⟨m, zeros j, x2, k, q2, rfl, HK.out, by omega, HRUN.out, HLP.out⟩
        case round =>
          obtain ⟨m, d, x, k, q, rfl, hk, hkn, hrun, hlp⟩ := hrel
          have HRU := hideH hrun
          have HL := hideH hlp
          have HKM := hideH hk
          clear hrun hlp hk HMT HLP HRUN HK
          by_cases h2 : 1 < k
          · obtain ⟨k2, rfl⟩ : ∃ k2, k = k2 + 2 := ⟨k - 2, by omega⟩
            have hm1 : m.length = k2 + 2 := HKM.out.symm
            obtain ⟨g, q', cur, hv, hgb, hmc, hmx, hbk, hcs, hct⟩ := (own0_own (m := m) (by rw [hm1]; have := HL.out.own; rw [hm1] at this; exact this) (by omega)).parts (by omega)
            rw [hm1] at hv hmc
            obtain ⟨rfl, rfl⟩ : x = some ⟨g, 0, none⟩ ∧ q = q' := by simp at hv; exact hv
            have hinv := HL.out.inv
            have h2l : 2 ≤ (mt m).length := by rw [mt_length]; omega
            have hsum := HSUM.out
            have hjw := hinv.weights h2l
            have hjinv := hinv.join h2l
            have hjns := ns_join (mt m) h2l
            have hrm := run_more (mt m) d (by omega)
            have hbd : ∀ z ∈ m, z.1.2.length ≤ 257 := fun z hz => by
              have h3 := ns_mem (mt m) z.1 (List.mem_map.2 ⟨z, hz, rfl⟩)
              have h4 := HL.out.few
              omega
            have hlt : ∀ z ∈ m, ∀ s ∈ z.1.2, s < d.length := fun z hz => hinv.lt z.1 (List.mem_map.2 ⟨z, hz, rfl⟩)
            have hsm : ∀ i, d.getD i 0 ≤ 3000000 := fun i => by
              have := hinv.small i
              omega
            have HJ := hideH (joinS_any g w.heap.size k2 q j j m d cur wr hm1 (by omega) hbk hct HL.out.sym hbd HL.out.ne hlt HL.out.len HL.out.dn hsm (by omega))
            have HNX : Hid (∀ v' m' w', mt m' = join (mt m) → OwnT w' 140 wr.heap.size v' m' → Syms w' m' → IsI w' w.heap.size 2 (up (incs (incs d (first (mt m)).2) (second (mt m)).2)) → Wr w.heap.size w.heap.size wr w' → ∃ x q, v' = .slice x (k2 + 1) q ∧ k2 + 1 = m'.length ∧ depths c = run m'.length (mt m') (incs (incs d (first (mt m)).2) (second (mt m)).2) ∧ LpS w1.heap.size w.heap.size j c.sum w w' v' m' (incs (incs d (first (mt m)).2) (second (mt m)).2)) := by
              intro v' m' w' e1 e2 e3 e4 e5
              have hl' : m'.length = k2 + 1 := by
                rw [← mt_length, e1, join_length _ h2l, mt_length, hm1]
                omega
              obtain ⟨g9, q9, _, hv9, _⟩ := e2.parts (by omega)
              have hlow := HL.out.low
              have hw1 : w1.heap.size ≤ wr.heap.size := by
                have := lt_row hbk
                omega
              refine ⟨_, q9, by rw [hv9, hl'], hl'.symm, ?_, ⟨.inr (e2.mono hw1), e3, e4, by rw [e1]; exact hjinv, by rw [e1, hjns]; exact HL.out.few, by rw [incs_length, incs_length]; exact HL.out.dn, ?_, ?_, HL.out.lo, HL.out.hi⟩⟩
              · have h3 := HRU.out
                rw [mt_length] at hrm
                rw [hrm, ← e1, mt_length] at h3
                exact h3
              · intro z hz
                have hz' : z.1 ∈ join (mt m) := by rw [← e1]; exact List.mem_map.2 ⟨z, hz, rfl⟩
                exact join_ne m h2l HL.out.ne z.1 hz'
              · exact ⟨e5.os.trans hlow.os, e5.tape.trans hlow.tape, e5.output.trans hlow.output, Nat.le_trans hlow.size e5.size, fun b hb => (e5.block b (Nat.lt_of_lt_of_le hb hlow.size) (by omega) (by omega)).trans (hlow.block b hb)⟩
            clear hv hgb hmc hmx hbk hcs hct hinv hsum hjw hjinv hjns hrm hbd hlt hsm h2l hm1
            go_wp2_with fail
            refine HJ.out.mono ?_
            rintro e w5 ⟨v5, m5, rfl, h51, h52, h53, h54, h55⟩
            obtain ⟨x5, q5, rfl, hl5, hr5, hlp5⟩ := HNX.out v5 m5 w5 h51 h52 h53 h54 h55
            have R5 := hideH hr5
            have L5 := hideH hlp5
            have E5 := hideH hl5
            clear h51 h52 h53 h54 h55 hr5 hlp5 hl5 HJ HNX
            go_wp2_with fail
            go_roundw
            case rel => exact ⟨m5, _, x5, k2 + 1, q5, rfl, E5.out, by omega, R5.out, L5.out⟩
            case measure => simp
          · have h2' : decide ((1 : Int) < (k : Int)) = false := by simp; omega
            have HF : Hid (depths c = d) := HRU.out.trans (run_done _ _ _ (by rw [mt_length, ← HKM.out]; omega))
            have I3 : Hid (IsI wr w.heap.size 2 (up (depths c))) := by rw [HF.out]; exact HL.out.len
            have B3 := hideH HL.out.low
            clear HRU HL HKM HF HINV HNS HDE
            go_wp2_with fail
            generalize wr = w4 at I3 B3 ⊢
            have DL := hideH ((depths_length c).trans HN.out)
            generalize hD : depths c = D at I3 DL
            have HD := hideH hD
            clear hD
            generalize w4 = wz at I3 B3 ⊢
            go_loopw [8, 7] (fun iv mv wr => ∃ i : Nat, iv = .int .i64 i ∧ i ≤ j ∧ mv = .int .i64 (mxN D i : Nat) ∧ wr = wz) (fun iv _ _ => j - (intOf iv).toNat)
            case atStart => exact ⟨0, rfl, Nat.zero_le _, rfl, rfl⟩
            case round =>
              obtain ⟨i, rfl, hi3, rfl, hw⟩ := hrel
              subst wr
              by_cases hlt3 : i < j
              · have hil : i < D.length := by rw [DL.out]; exact hlt3
                have ci : wz.cell? ⟨w.heap.size, i, none⟩ = some (.int .i64 (D.getD i 0 : Nat)) := by
                  rw [I3.out.cell (j := i) (by rw [up_length]; exact hil), up_at _ _ hil]
                have NX : Hid (mxN D (i + 1) = max (mxN D i) (D.getD i 0)) := rfl
                have hii : (i : Int) < j := by omega
                generalize D.getD i 0 = x at ci NX
                generalize mxN D i = p at NX ⊢
                clear hil
                go_wp2_with fail
                refine (max_any p x wz).mono ?_
                rintro e w8 ⟨rfl, hw8⟩
                subst w8
                go_wp2_with fail
                go_roundw
                case rel => exact ⟨i + 1, by go_num, by omega, by rw [NX.out], by trivial⟩
                case measure => simp [intOf]; omega
              · obtain rfl : i = j := by omega
                go_wp2_with fail
                go_ret2
                exact ⟨by rw [HD.out]; rfl, by rw [HD.out]; exact I3.out, B3.out⟩
end Go.Proofs.Ytmkpakhpjgocjaa.Hf
