/- Texts put together: BackWalks, BackSpec. -/
import Derived.Test.YtmkpakhpjgocjaaFs17
/- What the program's ZerosBack answers. -/
namespace Go.Proofs.Ytmkpakhpjgocjaa.Ze
open Go.RowKit
open Go.Proofs.Ytmkpakhpjgocjaa.Bi (upTo_impl)
open Go.Proofs.Ytmkpakhpjgocjaa.In (Ints OwnI IsO one_newI one_cellI app_one)
open Go.Proofs.Ytmkpakhpjgocjaa.In.Try (infoI2)

theorem OwnI.zeros {w : World} {base : Nat} {v : Value} {l : List Int} {m : Nat} (h : w.ownsRow base 2 1 v (l.length + m) (l.map (Value.int .i64) ++ List.replicate m (.int .i64 0))) : OwnI w base v (l ++ List.replicate m 0) := by
  unfold OwnI
  rw [List.length_append, List.map_append, List.length_replicate, List.map_replicate]
  exact h

set_option maxRecDepth 100000 in
set_option maxHeartbeats 1000000 in
theorem zerosBack_impl (l : List Int) (a : Option Addr) (cap B : Nat) (w : World) (hi : Ints w B a l) (hB : B ≤ w.heap.size) (hn : l.length ≤ 1048576) :
    Calls Try.prog 50 #[.slice a l.length cap] w fun e w' => ∃ v, e = .returned v ∧ OwnI w' w.heap.size v (backR l) ∧ Below w.heap.size w w' := by
  obtain ⟨i0, hi0, hz0, hz1, hz2⟩ := info_parts infoI2
  by_cases hlong : 400 < l.length
  · rw [backR_no (numsR_long hlong)]
    clear hi
    generalize l.length = n at hlong hn ⊢
    go_enter Try.func50, Try.ntmps50
    go_wp2_with fail
    go_ret
    exact ⟨_, rfl, OwnI.nil _ _, Below.refl _ _⟩
  · have HU := hideZ (upTo_impl l 256 a cap B w hi hn)
    cases hu : upTo l 256 with
    | false =>
      rw [backR_no ((numsR_of (by omega)).trans hu)]
      rw [hu] at HU
      clear hi hu
      generalize l.length = n at HU hlong hn ⊢
      have hd : decide (400 < (n : Int)) = false := decide_eq_false (by omega)
      go_enter Try.func50, Try.ntmps50
      go_wp2_with fail
      refine HU.out.mono ?_
      rintro e w' ⟨rfl, hw⟩
      subst w'
      go_wp2_with fail
      go_ret
      exact ⟨_, rfl, OwnI.nil _ _, Below.refl _ _⟩
    | true =>
      have HNR := hideZ ((numsR_of (by omega)).trans hu)
      have HUP := hideZ (upTo_yes hu)
      rw [hu] at HU
      have HS := hideZ (hi.mono hB)
      clear hi hu
      obtain ⟨n, hln⟩ : ∃ n, n = l.length := ⟨_, rfl⟩
      have HLN := hideZ hln
      rw [← hln] at HU hlong ⊢
      clear hln hn
      have hd : decide (400 < (n : Int)) = false := decide_eq_false (by omega)
      go_enter Try.func50, Try.ntmps50
      go_wp2_with fail
      refine HU.out.mono ?_
      rintro e w' ⟨rfl, hw⟩
      subst w'
      go_wp2_with fail
      go_loopw [17, 3, 4] (fun i u m wr => ∃ k q : Nat, i = .int .i64 k ∧ m = .int .i64 q ∧ k ≤ n ∧ q = (bst (l.take k)).2 ∧ (bst (l.take k)).1.length ≤ 400 ∧ OwnI wr w.heap.size u (bst (l.take k)).1 ∧ Below w.heap.size w wr) (fun i _ _ _ => n - (intOf i).toNat)
      case atStart => exact ⟨0, 1, rfl, rfl, Nat.zero_le _, rfl, by simp [bst], OwnI.nil _ _, Below.refl _ _⟩
      case round =>
        obtain ⟨k, q, rfl, rfl, hk, hq, h400, hown, hbel⟩ := hrel
        have hwo := (bst_worth l k (by have := HLN.out; omega)).2
        rw [← hq] at hwo
        have hq4 : q ≤ 401 := by omega
        have GB := hideZ hbel
        have HQ := hideZ hq
        have hsz := hbel.size
        obtain ⟨a', cap', rfl, _, _⟩ := hown.ints
        obtain ⟨lk, hlk⟩ : ∃ lk, lk = (bst (l.take k)).1 := ⟨_, rfl⟩
        rw [← hlk] at hown h400 ⊢
        have G1 := hideZ hown
        have HLK := hideZ hlk
        clear hq hown hbel hlk hwo
        by_cases hlt : k < n
        · have hkl : k < l.length := by rw [← HLN.out]; exact hlt
          obtain ⟨b, off, rfl, hb, hc⟩ := (HS.out.below GB.out).some (by omega)
          have ci := hc k hkl
          have hx256 := HUP.out _ (List.getElem_mem hkl)
          obtain ⟨x, hx⟩ : ∃ x, x = l[k] := ⟨_, rfl⟩
          have HX := hideZ hx
          rw [← hx] at ci hx256
          clear hc hx
          by_cases h0 : 1 < x
          · have HZ1 : Hid (bst (l.take (k + 1)) = (lk ++ [x - 1], 1)) := by
              unfold Hid
              rw [bst_one hkl (by rw [← HX.out]; exact h0), HX.out, HLK.out]
            go_wp2_with (at_builtin; refine wpList_append_own _ rfl (.tmp 23) (.tmp 26) 23 rfl w.heap.size 2 i0 (.int .i64 0) 1 8 Try.underlying23 hi0 hz0 hz1 hz2 rfl (by decide) _ _ _ rfl (OwnI.alloc G1.out _) ⟨wr.heap.size, 0, none⟩ 1 1 [.int .i64 (x - 1)] rfl rfl (one_newI _ _ _) (one_cellI _) (by unfold maxLen; omega) (by omega) (by simp; omega) ?_)
            intro v' w6 hown' hgrow _
            have hown6 := OwnI.snoc hown'
            have b6 := hideZ (app_one GB.out (by omega) (Nat.le_refl _) G1.out hgrow)
            obtain ⟨l6, hl6⟩ : ∃ l6, l6 = lk ++ [x - 1] := ⟨_, rfl⟩
            rw [← hl6] at hown6 HZ1
            have N6 := hideZ hown6
            obtain ⟨a6, cap6, rfl, _, _⟩ := hown6.ints
            clear hown' hgrow hown6 hl6
            by_cases h4 : 400 < l6.length
            · have HE : Hid (backR l = []) := backR_long (k := k + 1) (by have := HLN.out; omega) (by rw [HZ1.out]; exact h4)
              have h4' : (400 : Int) < (l6.length : Int) := by omega
              go_wp2_with fail
              go_ret
              exact ⟨_, rfl, by rw [HE.out]; exact OwnI.nil _ _, b6.out⟩
            · have h4' : ¬ (400 : Int) < (l6.length : Int) := by omega
              go_wp2_with fail
              go_roundw
              case rel => exact ⟨k + 1, 1, by go_num, rfl, by omega, by rw [HZ1.out], by rw [HZ1.out]; simp only; omega, by rw [HZ1.out]; exact N6.out, b6.out⟩
              case measure => simp [intOf]; omega
          · have HZ1 : Hid (bst (l.take (k + 1)) = (lk ++ List.replicate ((x.toNat + 1) * q) 0, q * 2)) := by
              unfold Hid
              rw [bst_zeros hkl (by rw [← HX.out]; exact h0), HQ.out, HX.out, HLK.out]
            obtain ⟨xn, rfl⟩ : ∃ xn : Nat, x = xn := ⟨x.toNat, by omega⟩
            obtain ⟨mm, hmm⟩ : ∃ mm, mm = (xn + 1) * q := ⟨_, rfl⟩
            have hm8 : mm ≤ 802 := by
              have : xn = 0 ∨ xn = 1 := by omega
              rcases this with rfl | rfl <;> omega
            have hmul : ((xn : Int) + 1) * (q : Int) = (mm : Int) := by rw [hmm]; simp
            rw [Int.toNat_natCast, ← hmm] at HZ1
            clear hmm
            go_wp2_with (at_builtin; refine wpList_append_zeros _ rfl (.tmp 28) (.tmp 32) 23 2 rfl w.heap.size 2 i0 Try.underlying23 Try.underlying2 hi0 hz0 hz1 hz2 _ _ _ rfl G1.out mm rfl (by omega) (by omega) ?_)
            intro v' w6 hown' hgrow
            have hown6 := OwnI.zeros hown'
            have b6 := hideZ (app_row GB.out (by omega) (Nat.le_refl _) G1.out hgrow)
            obtain ⟨l6, hl6⟩ : ∃ l6, l6 = lk ++ List.replicate mm 0 := ⟨_, rfl⟩
            rw [← hl6] at hown6 HZ1
            have N6 := hideZ hown6
            obtain ⟨a6, cap6, rfl, _, _⟩ := hown6.ints
            clear hown' hgrow hown6 hl6
            by_cases h4 : 400 < l6.length
            · have HE : Hid (backR l = []) := backR_long (k := k + 1) (by have := HLN.out; omega) (by rw [HZ1.out]; exact h4)
              have h4' : (400 : Int) < (l6.length : Int) := by omega
              go_wp2_with fail
              go_ret
              exact ⟨_, rfl, by rw [HE.out]; exact OwnI.nil _ _, b6.out⟩
            · have h4' : ¬ (400 : Int) < (l6.length : Int) := by omega
              go_wp2_with fail
              go_roundw
              case rel => exact ⟨k + 1, q * 2, by go_num, by go_num, by omega, by rw [HZ1.out], by rw [HZ1.out]; simp only; omega, by rw [HZ1.out]; exact N6.out, b6.out⟩
              case measure => simp [intOf]; omega
        · have hkn : k = l.length := by have := HLN.out; omega
          have HT : Hid (l.take k = l) := by
            unfold Hid
            rw [hkn, List.take_length]
          have HE : Hid (backR l = lk) := by
            unfold Hid
            rw [HLK.out, HT.out, backR_yes HNR.out (by rw [← HT.out, ← HLK.out]; exact h400)]
          clear hkn
          go_wp2_with fail
          go_ret
          exact ⟨_, rfl, by rw [HE.out]; exact G1.out, GB.out⟩
end Go.Proofs.Ytmkpakhpjgocjaa.Ze

/- What the specification's ZerosBack answers. -/
namespace Go.Proofs.Ytmkpakhpjgocjaa.Ze
open Go.RowKit
open Go.Proofs.Ytmkpakhpjgocjaa.In (Ints OwnI IsO one_newI one_cellI app_one)
open Go.Proofs.Ytmkpakhpjgocjaa.In.Try (infoI2)

theorem min_any (p q : Nat) (w : World) : Calls Try.prog 113 #[.int .i64 p, .int .i64 q] w fun e w' => e = .returned (.int .i64 (min p q : Nat)) ∧ w' = w := by
  by_cases h : p < q
  · have HE : Hid (min p q = p) := by unfold Hid; omega
    rw [HE.out]
    have h' : (p : Int) < q := by omega
    go_enter Try.func113, Try.ntmps113
    go_wp2_with fail
    go_ret
    exact ⟨rfl, rfl⟩
  · have HE : Hid (min p q = q) := by unfold Hid; omega
    rw [HE.out]
    have h' : ¬ (p : Int) < q := by omega
    go_enter Try.func113, Try.ntmps113
    go_wp2_with fail
    go_ret
    exact ⟨rfl, rfl⟩

/-- the first numbers' zeros and others, or just too many of them -/
def Bs (l : List Int) (k : Nat) (lo : List Int) (q : Nat) : Prop :=
  ((bst (l.take k)).1.length ≤ 400 ∧ lo = (bst (l.take k)).1 ∧ q = (bst (l.take k)).2) ∨ (400 < (bst (l.take k)).1.length ∧ 400 < lo.length)
theorem Bs.one {l : List Int} {k : Nat} {lo : List Int} {q : Nat} (h : Bs l k lo q) (hk : k < l.length) (h1 : 1 < l[k]) : Bs l (k + 1) (lo ++ [l[k] - 1]) 1 := by
  have e := bst_one hk h1
  rcases h with ⟨h4, rfl, rfl⟩ | ⟨h4, h5⟩
  · by_cases h6 : (bst (l.take k)).1.length + 1 ≤ 400
    · exact .inl ⟨by rw [e]; simpa using h6, by rw [e], by rw [e]⟩
    · exact .inr ⟨by rw [e]; simp; omega, by simp; omega⟩
  · exact .inr ⟨by rw [e]; simp; omega, by simp; omega⟩
theorem Bs.zeros {l : List Int} {k : Nat} {lo : List Int} {q j : Nat} (h : Bs l k lo q) (hk : k < l.length) (h1 : ¬ 1 < l[k]) (hj : j ≤ (l[k].toNat + 1) * q) (hs : j = (l[k].toNat + 1) * q ∨ 400 < lo.length + j) :
    Bs l (k + 1) (lo ++ List.replicate j 0) (min 1000 (2 * q)) := by
  have e := bst_zeros hk h1
  have hw := bst_worth l k (by omega)
  have hg := bst_grow hk
  have hl : (bst (l.take (k + 1))).1.length = (bst (l.take k)).1.length + (l[k].toNat + 1) * (bst (l.take k)).2 := by rw [e]; simp
  rcases h with ⟨h4, rfl, rfl⟩ | ⟨h4, h5⟩
  · by_cases h6 : (bst (l.take k)).1.length + (l[k].toNat + 1) * (bst (l.take k)).2 ≤ 400
    · have hj2 : j = (l[k].toNat + 1) * (bst (l.take k)).2 := by omega
      refine .inl ⟨by omega, by rw [e, hj2], ?_⟩
      rw [e]
      simp only
      have : (bst (l.take k)).2 ≤ (l[k].toNat + 1) * (bst (l.take k)).2 := Nat.le_mul_of_pos_left _ (by omega)
      omega
    · refine .inr ⟨by omega, ?_⟩
      rw [List.length_append, List.length_replicate]
      rcases hs with hs | hs <;> omega
  · refine .inr ⟨by omega, ?_⟩
    rw [List.length_append]
    omega
theorem Bs.done {l : List Int} {lo : List Int} {q : Nat} (h : Bs l l.length lo q) (hn : numsR l 256 = true) : backR l = if 400 < lo.length then [] else lo := by
  unfold Bs at h
  rw [List.take_length] at h
  rcases h with ⟨h4, rfl, rfl⟩ | ⟨h4, h5⟩
  · rw [backR_yes hn h4, if_neg (by omega)]
  · rw [if_pos h5]
    exact backR_long (k := l.length) (Nat.le_refl _) (by rw [List.take_length]; exact h4)

set_option maxRecDepth 100000 in
set_option maxHeartbeats 1000000 in
theorem zerosBack_spec (l : List Int) (a : Option Addr) (cap B : Nat) (w : World) (hi : Ints w B a l) (hB : B ≤ w.heap.size) (hn : l.length ≤ 1048576) :
    Calls Try.prog 51 #[.slice a l.length cap] w fun e w' => ∃ v, e = .returned v ∧ OwnI w' w.heap.size v (backR l) ∧ Below w.heap.size w w' := by
  obtain ⟨i0, hi0, hz0, hz1, hz2⟩ := info_parts infoI2
  have hb0 : Below w.heap.size w (w.alloc (.cells #[] 2)) := (Below.refl _ _).alloc (Nat.le_refl _) _
  have HU := hideZ (nums_spec l 256 a cap w.heap.size (w.alloc (.cells #[] 2)) ((hi.mono hB).below hb0) hn)
  have HW := hideZ (OwnI.empty w)
  have HB0 := hideZ hb0
  cases hu : numsR l 256 with
  | false =>
    rw [backR_no hu]
    rw [hu] at HU
    clear hi hu hb0
    generalize l.length = n at HU hn ⊢
    go_enter Try.func51, Try.ntmps51
    go_wp2_with fail
    refine HU.out.mono ?_
    rintro e w' ⟨rfl, hw⟩
    subst w'
    go_wp2_with fail
    go_ret
    exact ⟨_, rfl, HW.out, HB0.out⟩
  | true =>
    have HNR := hideZ hu
    have HUP := hideZ (upTo_yes (numsR_yes hu).2)
    have hlong := (numsR_yes hu).1
    rw [hu] at HU
    have HS := hideZ (hi.mono hB)
    clear hi hu hb0
    obtain ⟨n, hln⟩ : ∃ n, n = l.length := ⟨_, rfl⟩
    have HLN := hideZ hln
    rw [← hln] at HU hlong ⊢
    clear hln hn
    go_enter Try.func51, Try.ntmps51
    go_wp2_with fail
    refine HU.out.mono ?_
    rintro e w' ⟨rfl, hw⟩
    subst w'
    go_wp2_with fail
    go_loopw [5, 3, 4] (fun i u m wr => ∃ (k q : Nat) (lo : List Int), i = .int .i64 k ∧ m = .int .i64 q ∧ k ≤ n ∧ q ≤ 1000 ∧ lo.length ≤ 401 + k ∧ Bs l k lo q ∧ OwnI wr w.heap.size u lo ∧ Below w.heap.size w wr) (fun i _ _ _ => n - (intOf i).toNat)
    case atStart => exact ⟨0, 1, [], rfl, rfl, Nat.zero_le _, by omega, by simp, .inl ⟨by simp [bst], rfl, rfl⟩, HW.out, HB0.out⟩
    case round =>
      obtain ⟨k, q, lo, rfl, rfl, hk, hq, h400, hbs, hown, hbel⟩ := hrel
      have GB := hideZ hbel
      have HBS := hideZ hbs
      have hsz := hbel.size
      have G1 := hideZ hown
      obtain ⟨a', cap', rfl, _, _⟩ := hown.ints
      clear hown hbel hbs
      by_cases hlt : k < n
      · have hkl : k < l.length := by rw [← HLN.out]; exact hlt
        obtain ⟨b, off, rfl, hb, hc⟩ := (HS.out.below GB.out).some (by omega)
        have ci := hc k hkl
        have hx256 := HUP.out _ (List.getElem_mem hkl)
        have HC : Hid (∀ W : World, Below w.heap.size w W → W.cell? ⟨b, off + k, none⟩ = some (.int .i64 l[k])) := fun W hW => by
          obtain ⟨b', off', e1, _, hc'⟩ := ((HS.out.below hW).some (by omega : 0 < l.length))
          cases e1
          exact hc' k hkl
        obtain ⟨x, hx⟩ : ∃ x, x = l[k] := ⟨_, rfl⟩
        have HX := hideZ hx
        rw [← hx] at ci hx256 HC
        clear hc hx
        by_cases h0 : 1 < x
        · have HZ1 : Hid (Bs l (k + 1) (lo ++ [x - 1]) 1) := by
            unfold Hid
            rw [HX.out]
            exact HBS.out.one hkl (by rw [← HX.out]; exact h0)
          go_wp2_with (at_builtin; refine wpList_append_own _ rfl (.tmp 23) (.tmp 29) 23 rfl w.heap.size 2 i0 (.int .i64 0) 1 8 Try.underlying23 hi0 hz0 hz1 hz2 rfl (by decide) _ _ _ rfl (OwnI.alloc G1.out _) ⟨wr.heap.size, 0, none⟩ 1 1 [.int .i64 (x - 1)] rfl rfl (one_newI _ _ _) (one_cellI _) (by unfold maxLen; omega) (by omega) (by simp; omega) ?_)
          intro v' w6 hown' hgrow _
          have N6 := hideZ (OwnI.snoc hown')
          have b6 := hideZ (app_one GB.out (by omega) (Nat.le_refl _) G1.out hgrow)
          clear hown' hgrow
          go_wp2_with fail
          go_roundw
          case rel => exact ⟨k + 1, 1, lo ++ [x - 1], by go_num, rfl, by omega, by omega, by simp; omega, HZ1.out, N6.out, b6.out⟩
          case measure => simp [intOf]; omega
        · obtain ⟨xn, rfl⟩ : ∃ xn : Nat, x = xn := ⟨x.toNat, by omega⟩
          obtain ⟨mm, hmm⟩ : ∃ mm, mm = (xn + 1) * q := ⟨_, rfl⟩
          have hm8 : mm ≤ 2000 := by
            have : xn = 0 ∨ xn = 1 := by omega
            rcases this with rfl | rfl <;> omega
          have hmul : (q : Int) * ((xn : Int) + 1) = (mm : Int) := by rw [hmm, Int.mul_comm]; simp
          have HST : Hid (∀ j, j ≤ mm → (j = mm ∨ 400 < lo.length + j) → Bs l (k + 1) (lo ++ List.replicate j 0) (min 1000 (2 * q))) := fun j h1 h2 => by
            have e : l[k].toNat = xn := by rw [← HX.out]; rfl
            exact HBS.out.zeros hkl (by rw [← HX.out]; exact h0) (by rw [e, ← hmm]; exact h1) (by rw [e, ← hmm]; exact h2)
          clear hmm HBS
          obtain ⟨nl, hnl⟩ : ∃ nl, nl = lo.length := ⟨_, rfl⟩
          have HNL := hideZ hnl
          rw [← hnl] at h400 ⊢
          clear hnl
          go_wp2_with fail
          go_loopw [6, 3] (fun i u wr2 => ∃ j : Nat, i = .int .i64 j ∧ j ≤ mm ∧ (j = 0 ∨ nl + j ≤ 401) ∧ OwnI wr2 w.heap.size u (lo ++ List.replicate j 0) ∧ Below w.heap.size w wr2) (fun i _ _ => mm - (intOf i).toNat)
          case atStart => exact ⟨0, rfl, Nat.zero_le _, .inl rfl, by simpa [HNL.out] using G1.out, GB.out⟩
          case round =>
            obtain ⟨j, rfl, hj, hj4, hown2, hbel2⟩ := hrel
            have GB2 := hideZ hbel2
            have z2 := hbel2.size
            have c2 := HC.out _ hbel2
            obtain ⟨l2, hl2⟩ : ∃ l2, l2 = lo ++ List.replicate j 0 := ⟨_, rfl⟩
            have hll : l2.length = nl + j := by rw [hl2, List.length_append, List.length_replicate, HNL.out]
            rw [← hl2] at hown2
            have G2 := hideZ hown2
            have HL2 := hideZ hl2
            obtain ⟨a2, cap2, rfl, _, _⟩ := hown2.ints
            rw [hll] at G2 ⊢
            have HLL := hideZ hll
            clear hown2 hbel2 hl2 hll ci
            by_cases hjm : j < mm
            · by_cases h4 : nl + j ≤ 400
              · have hg1 : decide ((j : Int) < (mm : Int)) = true := decide_eq_true (by omega)
                have hg2 : decide ((((nl + j : Nat) : Int)) ≤ 400) = true := decide_eq_true (by omega)
                go_wp2_with (at_builtin; refine wpList_append_own _ rfl (.tmp 47) (.tmp 48) 23 rfl w.heap.size 2 i0 (.int .i64 0) 1 8 Try.underlying23 hi0 hz0 hz1 hz2 rfl (by decide) _ _ (l2.map (Value.int .i64)) rfl (by have := OwnI.alloc (l := l2) (by exact G2.out) (Obj.cells #[Value.int .i64 0] 2); unfold OwnI at this; rw [HLL.out] at this; exact this) ⟨wr.heap.size, 0, none⟩ 1 1 [.int .i64 0] rfl rfl (one_newI _ _ _) (one_cellI _) (by unfold maxLen; omega) (by omega) (by simp; omega) ?_)
                intro v' w6 hown' hgrow _
                have N6 : Hid (OwnI w6 w.heap.size v' (lo ++ List.replicate (j + 1) 0)) := by
                  have e : lo ++ List.replicate (j + 1) 0 = l2 ++ [0] := by rw [HL2.out, List.append_assoc]; congr 1; exact List.replicate_succ'
                  rw [e]
                  apply OwnI.snoc
                  rw [HLL.out]
                  exact hown'
                have b6 := hideZ (app_one GB2.out (by omega) (Nat.le_refl _) G2.out hgrow)
                clear hown' hgrow
                go_wp2_with fail
                go_roundw
                case rel => exact ⟨j + 1, by go_num, by omega, .inr (by omega), N6.out, b6.out⟩
                case measure => simp [intOf]; omega
              · have hg1 : decide ((j : Int) < (mm : Int)) = true := decide_eq_true (by omega)
                have hg2 : decide ((((nl + j : Nat) : Int)) ≤ 400) = false := decide_eq_false (by omega)
                have HB1 : Hid (Bs l (k + 1) l2 (min 1000 (2 * q))) := by
                  unfold Hid
                  rw [HL2.out]
                  exact HST.out j hj (.inr (by have := HNL.out; omega))
                have HMN := hideZ (fun W => min_any 1000 (2 * q) W)
                have hmn : min 1000 (2 * q) ≤ 1000 := Nat.min_le_left _ _
                generalize min 1000 (2 * q) = q2 at HMN HB1 hmn
                go_wp2_with fail
                refine (HMN.out wr).mono ?_
                rintro e w' ⟨rfl, hw⟩
                subst w'
                go_wp2_with fail
                go_roundw
                case rel => exact ⟨k + 1, q2, l2, by go_num, rfl, by omega, by omega, by rw [HLL.out]; omega, HB1.out, G2.out, GB2.out⟩
                case measure => simp [intOf]; omega
            · have hg1 : decide ((j : Int) < (mm : Int)) = false := decide_eq_false (by omega)
              have HB1 : Hid (Bs l (k + 1) l2 (min 1000 (2 * q))) := by
                unfold Hid
                rw [HL2.out]
                exact HST.out j hj (.inl (by omega))
              have HMN := hideZ (fun W => min_any 1000 (2 * q) W)
              have hmn : min 1000 (2 * q) ≤ 1000 := Nat.min_le_left _ _
              generalize min 1000 (2 * q) = q2 at HMN HB1 hmn
              go_wp2_with fail
              refine (HMN.out wr).mono ?_
              rintro e w' ⟨rfl, hw⟩
              subst w'
              go_wp2_with fail
              go_roundw
              case rel => exact ⟨k + 1, q2, l2, by go_num, rfl, by omega, by omega, by rw [HLL.out]; omega, HB1.out, G2.out, GB2.out⟩
              case measure => simp [intOf]; omega
      · have hkn : k = l.length := by have := HLN.out; omega
        have HE := hideZ (Bs.done (by rw [← hkn]; exact HBS.out) HNR.out)
        clear hkn
        by_cases h4 : 400 < lo.length
        · have h4' : (400 : Int) < (lo.length : Int) := by omega
          rw [if_pos h4] at HE
          have HW2 := hideZ ((OwnI.empty wr).mono hsz)
          have HB2 := hideZ (GB.out.alloc hsz (.cells #[] 2))
          go_wp2_with fail
          go_ret
          exact ⟨_, rfl, by rw [HE.out]; exact HW2.out, HB2.out⟩
        · have h4' : ¬ (400 : Int) < (lo.length : Int) := by omega
          rw [if_neg h4] at HE
          go_wp2_with fail
          go_ret
          exact ⟨_, rfl, by rw [HE.out]; exact G1.out, GB.out⟩
end Go.Proofs.Ytmkpakhpjgocjaa.Ze
