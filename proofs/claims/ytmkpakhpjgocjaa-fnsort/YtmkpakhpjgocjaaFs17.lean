/- Texts put together: ZeroSpec, OrdSpec. -/
import Derived.Test.YtmkpakhpjgocjaaFs16
import Derived.Test.YtmkpakhpjgocjaaFs2
/- What the specification's ZerosOf answers. -/
namespace Go.Proofs.Ytmkpakhpjgocjaa.Ze
open Go.RowKit
open Go.Proofs.Ytmkpakhpjgocjaa.Bi (ret_boolB is_yes is_no)
open Go.Proofs.Ytmkpakhpjgocjaa.In (Ints OwnI IsO one_newI one_cellI app_one)
open Go.Proofs.Ytmkpakhpjgocjaa.In.Try (infoI2)

set_option maxHeartbeats 1000000 in
theorem nums_spec (l : List Int) (m : Int) (a : Option Addr) (cap B : Nat) (w : World) (hi : Ints w B a l) (hn : l.length ≤ 1048576) :
    Calls Try.prog 111 #[.slice a l.length cap, .int .i64 m] w fun e w' => e = .returned (.bool (numsR l m)) ∧ w' = w := by
  have HS := hideZ hi
  clear hi
  obtain ⟨n, hln⟩ : ∃ n, n = l.length := ⟨_, rfl⟩
  have HLN := hideZ hln
  rw [← hln] at hn ⊢
  clear hln
  go_enter Try.func111, Try.ntmps111
  go_wp2_with fail
  go_loopw [5] (fun i wr => ∃ k : Nat, i = .int .i64 k ∧ k ≤ n ∧ (∀ j (hj : j < l.length), j < k → 0 ≤ l[j] ∧ l[j] ≤ m) ∧ wr = w) (fun i _ => n - (intOf i).toNat)
  case atStart => exact ⟨0, rfl, Nat.zero_le _, fun j hj h0 => absurd h0 (Nat.not_lt_zero j), rfl⟩
  case round =>
    obtain ⟨k, rfl, hk, hall, hw⟩ := hrel
    subst hw
    have HA := hideZ hall
    clear hall
    by_cases hlt : k < n
    · have hkl : k < l.length := by rw [← HLN.out]; exact hlt
      obtain ⟨b, off, rfl, hb, hc⟩ := HS.out.some (by omega)
      have ci := hc k hkl
      obtain ⟨x, hx⟩ : ∃ x, x = l[k] := ⟨_, rfl⟩
      have HX := hideZ hx
      rw [← hx] at ci
      clear hc hx
      by_cases h0 : x < 0 ∨ m < x
      · have HE : Hid (numsR l m = false) := by
          have := upTo_bad (m := m) hkl (by rw [← HX.out]; exact h0)
          unfold Hid numsR
          rw [this, Bool.and_false]
        have HI := hideZ (is_no x 0 m wr h0)
        clear h0
        go_wp2_with fail
        refine HI.out.mono ?_
        rintro e w' ⟨rfl, hw⟩
        subst w'
        go_wp2_with fail
        go_ret
        exact ⟨ret_boolB HE.out.symm, rfl⟩
      · have HI := hideZ (is_yes x 0 m wr (by omega) (by omega))
        have HX2 : Hid (0 ≤ x ∧ x ≤ m) := by
          unfold Hid
          omega
        clear h0
        go_wp2_with fail
        refine HI.out.mono ?_
        rintro e w' ⟨rfl, hw⟩
        subst w'
        go_wp2_with fail
        go_roundw
        case rel =>
          refine ⟨k + 1, by go_num, by omega, fun j hj hjk => ?_, trivial⟩
          by_cases e : j = k
          · subst e
            rw [← HX.out]
            exact HX2.out
          · exact HA.out j hj (by omega)
        case measure => simp [intOf]; omega
    · have HU : Hid (upTo l m = true) := upTo_of (fun x hx => by
        obtain ⟨j, hj, rfl⟩ := List.getElem_of_mem hx
        exact HA.out j hj (by have := HLN.out; omega))
      by_cases h4 : n ≤ 400
      · have HE : Hid (numsR l m = true) := by
          unfold Hid
          rw [numsR_of (by have := HLN.out; omega)]
          exact HU.out
        have h4' : (n : Int) ≤ 400 := by omega
        go_wp2_with fail
        go_ret
        exact ⟨ret_boolB HE.out.symm, rfl⟩
      · have HE : Hid (numsR l m = false) := numsR_long (by have := HLN.out; omega)
        have h4' : decide ((n : Int) ≤ 400) = false := decide_eq_false (by omega)
        go_wp2_with fail
        go_ret
        exact ⟨ret_boolB HE.out.symm, rfl⟩

set_option maxRecDepth 100000 in
set_option maxHeartbeats 1000000 in
theorem run_spec (r : Nat) (w : World) (hs : r ≤ 1048576) :
    Calls Try.prog 112 #[.int .i64 r] w fun e w' => ∃ v, e = .returned v ∧ OwnI w' w.heap.size v (zrun r) ∧ v ≠ .slice none 0 0 ∧ Below w.heap.size w w' := by
  obtain ⟨i0, hi0, hz0, hz1, hz2⟩ := info_parts infoI2
  have HW := hideZ (OwnI.empty w)
  go_enter Try.func112, Try.ntmps112
  go_wp2_with fail
  go_loopw [3, 0] (fun u m wr => ∃ (l' : List Int) (r' : Nat), m = .int .i64 r' ∧ OwnI wr w.heap.size u l' ∧ u ≠ .slice none 0 0 ∧ l' ++ zrun r' = zrun r ∧ l'.length + r' ≤ 1048576 ∧ Below w.heap.size w wr) (fun _ m _ => (intOf m).toNat)
  case atStart => exact ⟨[], r, rfl, HW.out, by simp, rfl, by simpa using hs, (Below.refl _ _).alloc (Nat.le_refl _) _⟩
  case round =>
    obtain ⟨l', r', rfl, hown, hne, he, hs', hbel⟩ := hrel
    have G1 := hideZ hown
    have GB := hideZ hbel
    have HE := hideZ he
    have hz := hbel.size
    have HS := hideZ hs'
    have hs2 : r' ≤ 1048576 := by omega
    clear he hbel hs'
    obtain ⟨a', cap', rfl, _, _⟩ := hown.ints
    have HNE := hideZ hne
    clear hown hne
    by_cases h0 : 0 < r'
    · by_cases h1 : r' % 2 = 1
      · have hq : (r' : Int).tmod 2 = 1 := by rw [Int.tmod_eq_emod_of_nonneg (by omega)]; omega
        have hd : ((r' : Int) - 1).tdiv 2 = (((r' - 1) / 2 : Nat) : Int) := by rw [Int.tdiv_eq_ediv_of_nonneg (by omega)]; omega
        have HZ : Hid (l' ++ ([0] ++ zrun ((r' - 1) / 2)) = zrun r) := by
          unfold Hid
          rw [← HE.out, zrun_odd h1]
          rfl
        go_wp2_with (at_builtin; refine wpList_append_own _ rfl (.tmp 10) (.tmp 11) 23 rfl w.heap.size 2 i0 (.int .i64 0) 1 8 Try.underlying23 hi0 hz0 hz1 hz2 rfl (by decide) _ _ _ rfl (OwnI.alloc G1.out _) ⟨wr.heap.size, 0, none⟩ 1 1 [.int .i64 0] rfl rfl (one_newI _ _ _) (one_cellI _) (by unfold maxLen; have := HS.out; omega) (by have := HS.out; omega) (by simp; omega) ?_)
        intro v' w5 hown' hgrow hnn
        have N5 := hideZ (OwnI.snoc hown')
        have b5 := hideZ (app_one GB.out (by omega) (Nat.le_refl _) G1.out hgrow)
        have HN5 : Hid (v' ≠ .slice none 0 0) := hnn
        clear hown' hgrow hnn
        go_wp2_with fail
        go_roundw
        case rel => exact ⟨l' ++ [0], (r' - 1) / 2, by go_num, N5.out, HN5.out, by rw [List.append_assoc]; exact HZ.out, by have := HS.out; simp; omega, b5.out⟩
        case measure => simp [intOf]; omega
      · have hq : (r' : Int).tmod 2 = 0 := by rw [Int.tmod_eq_emod_of_nonneg (by omega)]; omega
        have hd : ((r' : Int) - 2).tdiv 2 = (((r' - 2) / 2 : Nat) : Int) := by rw [Int.tdiv_eq_ediv_of_nonneg (by omega)]; omega
        have HZ : Hid (l' ++ ([1] ++ zrun ((r' - 2) / 2)) = zrun r) := by
          unfold Hid
          rw [← HE.out, zrun_even h0 h1]
          rfl
        go_wp2_with (at_builtin; refine wpList_append_own _ rfl (.tmp 16) (.tmp 17) 23 rfl w.heap.size 2 i0 (.int .i64 0) 1 8 Try.underlying23 hi0 hz0 hz1 hz2 rfl (by decide) _ _ _ rfl (OwnI.alloc G1.out _) ⟨wr.heap.size, 0, none⟩ 1 1 [.int .i64 1] rfl rfl (one_newI _ _ _) (one_cellI _) (by unfold maxLen; have := HS.out; omega) (by have := HS.out; omega) (by simp; omega) ?_)
        intro v' w5 hown' hgrow hnn
        have N5 := hideZ (OwnI.snoc hown')
        have b5 := hideZ (app_one GB.out (by omega) (Nat.le_refl _) G1.out hgrow)
        have HN5 : Hid (v' ≠ .slice none 0 0) := hnn
        clear hown' hgrow hnn
        go_wp2_with fail
        go_roundw
        case rel => exact ⟨l' ++ [1], (r' - 2) / 2, by go_num, N5.out, HN5.out, by rw [List.append_assoc]; exact HZ.out, by have := HS.out; simp; omega, b5.out⟩
        case measure => simp [intOf]; omega
    · obtain rfl : r' = 0 := by omega
      have HZ : Hid (l' = zrun r) := by
        unfold Hid
        rw [← HE.out, zrun_zero, List.append_nil]
      go_wp2_with fail
      go_ret
      exact ⟨_, rfl, by rw [← HZ.out]; exact G1.out, HNE.out, GB.out⟩

theorem own_some {w : World} {base : Nat} {v : Value} {l : List Int} (h : OwnI w base v l) (hn : v ≠ .slice none 0 0) :
    ∃ g cap, v = .slice (some ⟨g, 0, none⟩) l.length cap ∧ base ≤ g ∧ g < w.heap.size ∧ IsO w g 2 l := by
  rcases h.split with ⟨rfl, _⟩ | ⟨g, cap, rfl, hg, _, ho⟩
  · exact absurd rfl hn
  · exact ⟨g, cap, rfl, hg, ho.lt, ho⟩
theorem own_news {w : World} {g : Nat} {l : List Int} (h : IsO w g 2 l) : ∀ (j : Nat) (u : Value), (l.map (Value.int .i64))[j]? = some u → w.cell? ((⟨g, 0, none⟩ : Addr).add j) = some u := by
  intro j u hj
  rw [List.getElem?_map] at hj
  cases hl : l[j]? with
  | none => rw [hl] at hj; cases hj
  | some x =>
    rw [hl] at hj
    obtain ⟨hlt, hx⟩ := List.getElem?_eq_some_iff.1 hl
    have hadd : (⟨g, 0, none⟩ : Addr).add j = ⟨g, j, none⟩ := by unfold Addr.add; split <;> simp_all
    rw [hadd, h.cell hlt, hx]
    exact hj
theorem own_cells (l : List Int) : ∀ u ∈ l.map (Value.int .i64), u.oneCell' = true := by
  intro u hu
  obtain ⟨x, _, rfl⟩ := List.mem_map.1 hu
  rfl
theorem OwnI.joined {w : World} {base : Nat} {v : Value} {l p : List Int} (h : w.ownsRow base 2 1 v (l.length + p.length) (l.map (Value.int .i64) ++ p.map (Value.int .i64))) : OwnI w base v (l ++ p) := by
  unfold OwnI
  rw [List.length_append, List.map_append]
  exact h
/-- behind an append of a row of numbers -/
theorem app_row {B base : Nat} {e : TypeId} {w0 w w1 : World} {v : Value} {n size : Nat} {xs : List Value} (hbel : Below B w0 w) (hB : B ≤ w.heap.size) (hBb : B ≤ base)
    (hown : w.ownsRow base e size v n xs) (hgrow : w.grownBy w1 v.ownBlock) : Below B w0 w1 := by
  refine hbel.grown hgrow hB ?_
  intro k hk
  exact Nat.le_trans hBb (hown.lt k hk).1
end Go.Proofs.Ytmkpakhpjgocjaa.Ze

/- What the specification's OrderOf answers. -/
namespace Go.Proofs.Ytmkpakhpjgocjaa.So
open Go.RowKit
open Go.Proofs.Ytmkpakhpjgocjaa.In (OwnI IsO one_newI one_cellI)
open Go.Proofs.Ytmkpakhpjgocjaa.In.Try (infoI2)
open Go.Proofs.Ytmkpakhpjgocjaa.Ze (own_some own_news own_cells)

set_option maxHeartbeats 1000000 in
theorem turn_spec (t : ByteArray) (k : Nat) (w : World) (ht : t.size ≤ 1048576) (hk : k ≤ t.size) :
    Calls Try.prog 136 #[.string t, .int .i64 k] w fun e w' => e = .returned (.string (turnV t k)) ∧ ∃ q, w' = w.drewN q := by
  have mixed := mixed
  unfold turnV
  have hq0 : (t.extract k t.size).size + (t.extract 0 k).size ≤ 9223372036854775807 := by simp; omega
  have hle : (k : Int) ≤ (t.size : Int) := by omega
  have hge : ¬ (t.size : Int) < (k : Int) := by omega
  go_enter Try.func136, Try.ntmps136
  go_wp2_with fail
  go_quiet (fail)
  go_wp2_with fail
  go_ret
  exact ⟨rfl, nq, rfl⟩

theorem below_drewN {B : Nat} {w w' : World} (h : Below B w w') (n : Nat) : Below B w (w'.drewN n) := ⟨h.os, h.tape, h.output, h.size, h.block⟩
theorem own_drewN {w : World} {base : Nat} {v : Value} {l : List Int} (h : OwnI w base v l) (n : Nat) : OwnI (w.drewN n) base v l :=
  h.below (below_drewN (Below.refl _ _) n)

theorem isO_take {w : World} {g : Nat} {l : List Nat} (h : IsO w g 2 (ints l)) (p : Nat) : IsO w g 2 (ints (l.take p)) := by
  obtain ⟨cur, hb, hc⟩ := h
  refine ⟨cur, hb, fun j hj => ?_⟩
  have hj2 : j < min p l.length := by simpa [ints] using hj
  have hj' : j < p ∧ j < l.length := by omega
  have := hc j (by rw [ints_len]; exact hj'.2)
  simpa [ints] using this
theorem isO_drop {w : World} {g : Nat} {l : List Nat} (h : IsO w g 2 (ints l)) (p : Nat) : ∀ (j : Nat) (u : Value), ((ints (l.drop p)).map (Value.int .i64))[j]? = some u → w.cell? ((⟨g, p, none⟩ : Addr).add j) = some u := by
  intro j u hj
  have hadd : (⟨g, p, none⟩ : Addr).add j = ⟨g, p + j, none⟩ := by unfold Addr.add; split <;> simp_all
  rw [hadd]
  simp only [ints, List.getElem?_map, List.getElem?_drop] at hj
  cases hl : l[p + j]? with
  | none => rw [hl] at hj; cases hj
  | some x =>
    rw [hl] at hj
    obtain ⟨hlt, hx⟩ := List.getElem?_eq_some_iff.1 hl
    rw [h.cell (j := p + j) (by rw [ints_len]; exact hlt)]
    simp [ints, hx] at hj ⊢
    exact hj
theorem block_spec (t : ByteArray) (w : World) (hn : t.size ≤ 1048576) : Calls Try.prog 106 #[.string t] w fun e w' => e = .returned (.bool (decide (t.size ≤ 48))) ∧ w' = w := by
  by_cases h : t.size ≤ 48
  · rw [decide_eq_true h]
    have h' : (t.size : Int) ≤ 48 := by omega
    go_enter Try.func106, Try.ntmps106
    go_wp2_with fail
    go_ret
    exact ⟨rfl, rfl⟩
  · rw [decide_eq_false h]
    have h' : decide ((t.size : Int) ≤ 48) = false := decide_eq_false (by omega)
    go_enter Try.func106, Try.ntmps106
    go_wp2_with fail
    go_ret
    exact ⟨rfl, rfl⟩
theorem own_ne {w : World} {base : Nat} {v : Value} {l : List Int} (h : OwnI w base v l) (hl : 0 < l.length) : v ≠ .slice none 0 0 := by
  rcases h.split with ⟨_, rfl⟩ | ⟨g, cap, rfl, _⟩
  · simp at hl
  · simp

set_option maxRecDepth 100000 in
set_option maxHeartbeats 2000000 in
theorem order_spec (t : ByteArray) (w : World) (ht : t.size ≤ 48) :
    Calls Try.prog 114 #[.string t] w fun e w' => ∃ v l, e = .returned v ∧ OwnI w' w.heap.size v (ints l) ∧ OrdOk t l ∧ v ≠ .slice none 0 0 ∧ Below w.heap.size w w' := by
  have mixed := mixed
  obtain ⟨i0, hi0, hz0, hz1, hz2⟩ := info_parts infoI2
  have HW := hideO (Ze.OwnI.empty w)
  have HT := hideO (fun (k : Nat) (W : World) (hk : k ≤ t.size) => turn_spec t k W (by omega) hk)
  have htz : (t.size : Int) ≤ 48 := by omega
  go_enter Try.func114, Try.ntmps114
  go_wp2_with fail
  go_loopw [4, 3] (fun i u wr => ∃ (k : Nat) (l : List Nat), i = .int .i64 k ∧ k ≤ t.size ∧ l.Perm (List.range k) ∧ l.Pairwise (lx (clT (turnV t))) ∧ OwnI wr w.heap.size u (ints l) ∧ u ≠ .slice none 0 0 ∧ Below w.heap.size w wr) (fun i _ _ => t.size - (intOf i).toNat)
  case atStart => exact ⟨0, [], rfl, Nat.zero_le _, List.Perm.refl _, List.Pairwise.nil, HW.out, by simp, (Below.refl _ _).alloc (Nat.le_refl _) _⟩
  case round =>
    obtain ⟨k, l, rfl, hk, hp, hs, hown, hne, hbel⟩ := hrel
    have HP := hideO hp
    have HS := hideO hs
    have GB := hideO hbel
    have hsz := hbel.size
    have hlk : l.length = k := by have := hp.length_eq; simpa using this
    have HL := hideO hlk
    have G1 := hideO hown
    obtain ⟨g, cap, rfl, hg, hgl, ho⟩ := own_some hown hne
    rw [ints_len, hlk] at G1 ⊢
    have HO := hideO ho
    have hcap : k ≤ cap := by
      obtain ⟨_, h⟩ := hown
      rcases h with ⟨h, _⟩ | ⟨g', cap', cur, hv, _, _, hle, _⟩
      · cases h
      · simp at hv
        rw [ints_len, hlk] at hle
        omega
    have hcm : cap ≤ maxLen := by
      obtain ⟨_, h⟩ := hown
      rcases h with ⟨h, _⟩ | ⟨g', cap', cur, hv, _, _, _, hle, _⟩
      · cases h
      · simp at hv
        omega
    clear hown hne hbel hp hs ho hlk
    by_cases hlt : k < t.size
    · have hlt' : (k : Int) < (t.size : Int) := by omega
      obtain ⟨wo, hwo⟩ : ∃ wo, wo = wr := ⟨_, rfl⟩
      subst hwo
      go_wp2_with fail
      go_loopw [5] (fun i wr2 => ∃ (p q : Nat), i = .int .i64 p ∧ p ≤ k ∧ (∀ j (h : j < l.length), p ≤ j → clT (turnV t) k l[j] = true) ∧ wr2 = wo.drewN q) (fun i _ => (intOf i).toNat)
      case atStart => exact ⟨k, 0, rfl, Nat.le_refl _, fun j h1 h2 => absurd h1 (by have := HL.out; omega), rfl⟩
      case round =>
        obtain ⟨p, q, rfl, hpk, hhi, hwr⟩ := hrel
        have HHI := hideO hhi
        have HWR := hideO hwr
        have hO2 : IsO wr g 2 (ints l) := by rw [hwr]; exact HO.out.of_heap rfl
        clear hhi hwr
        by_cases hp0 : 0 < p
        · obtain ⟨pp, hpp⟩ : ∃ pp, p = pp + 1 := ⟨p - 1, by omega⟩
          have hppl : pp < l.length := by have := HL.out; omega
          have c0 := hO2.cell (j := pp) (by rw [ints_len]; exact hppl)
          have ey : (ints l)[pp]'(by rw [ints_len]; exact hppl) = ((l[pp] : Nat) : Int) := by simp [ints]
          rw [ey] at c0
          have hyk : l[pp] < k := by
            have := HP.out.mem_iff.1 (List.getElem_mem hppl)
            simpa using this
          obtain ⟨y, hy⟩ : ∃ y, y = l[pp] := ⟨_, rfl⟩
          rw [← hy] at c0 hyk
          have c1 := fun n' => (show (wr.drewN n').cell? ⟨g, pp, none⟩ = some (.int .i64 (y : Nat)) from c0)
          have HTK := hideO (fun W => HT.out k W (by omega))
          have HTY := hideO (fun W => HT.out y W (by omega))
          have HCL : Hid (Op.bytesLess (turnV t k).toList (turnV t y).toList = clT (turnV t) k y) := rfl
          have e1 : (p : Int) - 1 = (pp : Int) := by omega
          have hwp : IntKind.i64.wrap (pp : Int) = (pp : Int) := by rw [IntKind.wrap_i64]; omega
          have hpz : (pp : Int) < (k : Int) := by omega
          have hp0' : (0 : Int) < (p : Int) := by omega
          have hpd : decide ((0 : Int) < (p : Int)) = true := decide_eq_true hp0'
          have HPP := hideO hpp
          have HY := hideO hy
          generalize turnV t k = A at HTK HCL
          generalize turnV t y = B at HTY HCL
          clear c0 ey hpp hy hO2
          cases hcb : clT (turnV t) k y with
          | true =>
            have hbl : Op.bytesLess A.toList B.toList = true := HCL.out.trans hcb
            have HC2 : Hid (∀ j (h : j < l.length), pp ≤ j → clT (turnV t) k l[j] = true) := fun j h1 h2 => by
              rcases Nat.eq_or_lt_of_le h2 with e | e
              · subst e
                rw [← HY.out]
                exact hcb
              · exact HHI.out j h1 (by have := HPP.out; omega)
            go_wp2_with fail
            go_quiet (first | (go_at_call 136; (with_reducible refine Calls.quiet_of (HTK.out _))) | (go_at_call 136; (with_reducible refine Calls.quiet_of (HTY.out _))))
            all_goals (try go_wp2_with fail)
            go_roundw
            case rel => exact ⟨pp, q + nq, rfl, by omega, HC2.out, by rw [HWR.out]; exact World.drewN_drewN _ _ _⟩
            case measure => have := HPP.out; simp [intOf]; omega
          | false =>
            have hbl : Op.bytesLess A.toList B.toList = false := HCL.out.trans hcb
            go_wp2_with fail
            go_quiet (first | (go_at_call 136; (with_reducible refine Calls.quiet_of (HTK.out _))) | (go_at_call 136; (with_reducible refine Calls.quiet_of (HTY.out _))))
            have HQ := hideO (ord_put (clT_weak (turnV t)) HP.out HS.out (show p ≤ l.length by have := HL.out; omega) HHI.out (by
              have := HPP.out
              exact Or.inr ⟨by omega, by
                have e : l[p - 1]'(by omega) = y := by rw [HY.out]; congr 1; omega
                rw [e]
                exact hcb⟩))
            have G4 := hideO (own_drewN G1.out (q + nq))
            have O4 : Hid (IsO (wo.drewN (q + nq)) g 2 (ints l)) := HO.out.of_heap rfl
            have B4 := hideO (below_drewN GB.out (q + nq))
            have hW : wr.drewN nq = wo.drewN (q + nq) := by rw [HWR.out]; exact World.drewN_drewN _ _ _
            have z4 : g < (wo.drewN (q + nq)).heap.size := hgl
            have zs4 : w.heap.size ≤ (wo.drewN (q + nq)).heap.size := hsz
            rw [hW]
            clear hW
            generalize wo.drewN (q + nq) = W at G4 O4 B4 z4 zs4 ⊢
            have HEM := hideO (Ze.OwnI.empty W)
            have HTA : Hid ((ints l).length = k) := by
              unfold Hid
              rw [ints_len, HL.out]
            have hpc : (p : Int) ≤ (cap : Int) := by omega
            have hpk' : (p : Int) ≤ (k : Int) := by omega
            go_wp2_with (at_builtin; refine wpList_append_own _ rfl (.tmp 33) (.tmp 36) 23 rfl W.heap.size 2 i0 (.int .i64 0) 1 8 Try.underlying23 hi0 hz0 hz1 hz2 rfl (by decide) _ 0 [] rfl HEM.out ⟨g, 0, none⟩ p cap ((ints (l.take p)).map (Value.int .i64)) rfl ?len1 ?new1 (own_cells _) (by unfold maxLen; omega) (by omega) (by simp) ?_)
            case len1 => simp [ints_len]; have := HL.out; omega
            case new1 => exact own_news (isO_take (O4.out.below ((Below.refl _ W).alloc (Nat.le_refl _) _) z4) p)
            intro v1 w1 hown1 hgrow1 _
            have HO1 : Hid (OwnI w1 W.heap.size v1 (ints (l.take p))) := by
              have e : (ints (l.take p)).length = p := by simp [ints_len]; have := HL.out; omega
              unfold Hid OwnI
              rw [e]
              exact hown1
            have hb1 : Below W.heap.size W w1 := ((Below.refl W.heap.size W).alloc (Nat.le_refl _) _).grown hgrow1 (by simp) (fun k hk => by simp [Value.ownBlock] at hk; omega)
            have z1 := hb1.size
            have O1 := hideO (O4.out.below hb1 z4)
            have B1 := hideO hb1
            clear hown1 hgrow1 hb1
            have HLT : Hid ((ints (l.take p)).length = p) := by
              unfold Hid
              simp [ints_len]
              have := HL.out
              omega
            go_wp2_with (at_builtin; refine wpList_append_own _ rfl (.tmp 38) (.tmp 40) 23 rfl W.heap.size 2 i0 (.int .i64 0) 1 8 Try.underlying23 hi0 hz0 hz1 hz2 rfl (by decide) _ _ _ rfl (Ze.OwnI.alloc HO1.out _) ⟨w1.heap.size, 0, none⟩ 1 1 [.int .i64 (k : Nat)] rfl rfl (one_newI _ _ _) (one_cellI _) (by rw [HLT.out]; unfold maxLen; omega) (by rw [HLT.out]; omega) (by simp; omega) ?_)
            intro v2 w2 hown2 hgrow2 _
            have HO2 : Hid (OwnI w2 W.heap.size v2 (ints (l.take p ++ [k]))) := by
              unfold Hid
              rw [ints_snoc]
              exact In.OwnI.snoc hown2
            have hb2 := In.app_one B1.out z1 (Nat.le_refl _) HO1.out hgrow2
            have z2 := hb2.size
            have O2 := hideO (O4.out.below hb2 z4)
            have B2 := hideO hb2
            clear hown2 hgrow2 hb2 B1 O1
            have HLT2 : Hid ((ints (l.take p ++ [k])).length = p + 1) := by
              unfold Hid
              simp [ints_len]
              have := HL.out
              omega
            have HLD : Hid ((ints (l.drop p)).length = k - p) := by
              unfold Hid
              simp [ints_len, HL.out]
            have HFIN : Hid (∀ v3 w3, w3.ownsRow W.heap.size 2 1 v3 (p + 1 + (k - p)) ((ints (l.take p ++ [k])).map (Value.int .i64) ++ (ints (l.drop p)).map (Value.int .i64)) → OwnI w3 W.heap.size v3 (ints (l.take p ++ [k] ++ l.drop p))) := fun v3 w3 h => by
              have e : ints (l.take p ++ [k] ++ l.drop p) = ints (l.take p ++ [k]) ++ ints (l.drop p) := by simp [ints]
              rw [e]
              apply Ze.OwnI.joined
              rw [HLT2.out, HLD.out]
              exact h
            have HOW2 : Hid (w2.ownsRow W.heap.size 2 1 v2 (p + 1) ((ints (l.take p ++ [k])).map (Value.int .i64))) := by
              have := HO2.out
              unfold OwnI at this
              rw [HLT2.out] at this
              exact this
            have hv2 : v2 ≠ .slice none 0 0 := own_ne HO2.out (by rw [HLT2.out]; omega)
            by_cases hkp : p = k
            · have HD0 : Hid (ints (l.drop p) = []) := by
                unfold Hid
                rw [hkp, ← HL.out, List.drop_length]
                rfl
              subst hkp
              by_cases hcp : cap = p
              · subst hcp
                go_wp2_with (at_builtin; refine wpList_append_own _ rfl (.tmp 42) (.tmp 45) 23 rfl W.heap.size 2 i0 (.int .i64 0) 1 8 Try.underlying23 hi0 hz0 hz1 hz2 rfl (by decide) _ _ _ rfl HOW2.out _ 0 _ [] rfl rfl (by intro j u hj; simp at hj) (by intro u hu; simp at hu) (by unfold maxLen; omega) (by omega) (by omega) ?_)
                intro v3 w3 hown3 hgrow3 _
                have HO3 := hideO (HFIN.out v3 w3 (by rw [HD0.out, Nat.sub_self, List.map_nil, List.append_nil]; exact hown3))
                have HN3 := hideO (own_ne HO3.out (by simp [ints_len]; omega))
                have hb3 := hideO (Ze.app_row B2.out z2 (Nat.le_refl _) HO2.out hgrow3)
                clear hown3 hgrow3
                go_wp2_with fail
                go_roundw
                case rel => exact ⟨cap + 1, _, by go_num, by omega, HQ.out.1, HQ.out.2, HO3.out.mono zs4, HN3.out, B4.out.trans (hb3.out.mono zs4)⟩
                case measure => simp [intOf]; omega
              · have hcp1 : ¬ (cap : Int) = (p : Int) := by omega
                have hcp2 : p < cap := by omega
                go_wp2_with (at_builtin; refine wpList_append_own _ rfl (.tmp 42) (.tmp 45) 23 rfl W.heap.size 2 i0 (.int .i64 0) 1 8 Try.underlying23 hi0 hz0 hz1 hz2 rfl (by decide) _ _ _ rfl HOW2.out _ 0 _ [] rfl rfl (by intro j u hj; simp at hj) (by intro u hu; simp at hu) (by unfold maxLen; omega) (by omega) (by omega) ?_)
                intro v3 w3 hown3 hgrow3 _
                have HO3 := hideO (HFIN.out v3 w3 (by rw [HD0.out, Nat.sub_self, List.map_nil, List.append_nil]; exact hown3))
                have HN3 := hideO (own_ne HO3.out (by simp [ints_len]; omega))
                have hb3 := hideO (Ze.app_row B2.out z2 (Nat.le_refl _) HO2.out hgrow3)
                clear hown3 hgrow3
                go_wp2_with fail
                go_roundw
                case rel => exact ⟨p + 1, _, by go_num, by omega, HQ.out.1, HQ.out.2, HO3.out.mono zs4, HN3.out, B4.out.trans (hb3.out.mono zs4)⟩
                case measure => simp [intOf]; omega
            · have hpk2 : p < k := by omega
              have hcp0 : ¬ cap = p := by omega
              have hcp1 : ¬ (cap : Int) = (p : Int) := by omega
              obtain ⟨dl, hdl⟩ : ∃ dl, dl = k - p := ⟨_, rfl⟩
              have edl : (k : Int) - (p : Int) = (dl : Int) := by omega
              have edl2 : k - p = dl := hdl.symm
              rw [← hdl] at HFIN HLD
              clear hkp hdl
              go_wp2_with (at_builtin; refine wpList_append_own _ rfl (.tmp 42) (.tmp 45) 23 rfl W.heap.size 2 i0 (.int .i64 0) 1 8 Try.underlying23 hi0 hz0 hz1 hz2 rfl (by decide) _ _ _ rfl HOW2.out ⟨g, p, none⟩ dl _ ((ints (l.drop p)).map (Value.int .i64)) rfl ?len3 ?new3 (own_cells _) ?c31 ?c32 (by omega) ?_)
              case len3 => rw [List.length_map, HLD.out, Nat.mul_one]
              case new3 => exact isO_drop O2.out p
              case c31 => have := HLD.out; unfold maxLen; omega
              case c32 => have := HLD.out; omega
              intro v3 w3 hown3 hgrow3 _
              have HO3 := hideO (HFIN.out v3 w3 hown3)
              have HN3 := hideO (own_ne HO3.out (by simp [ints_len]; omega))
              have hb3 := hideO (Ze.app_row B2.out z2 (Nat.le_refl _) HO2.out hgrow3)
              clear hown3 hgrow3
              go_wp2_with fail
              go_roundw
              case rel => exact ⟨k + 1, _, by go_num, by omega, HQ.out.1, HQ.out.2, HO3.out.mono zs4, HN3.out, B4.out.trans (hb3.out.mono zs4)⟩
              case measure => simp [intOf]; omega
        · have hpd : decide ((0 : Int) < (p : Int)) = false := decide_eq_false (by omega)
          have hpn : ¬ (0 : Int) < (p : Int) := by omega
          clear hO2
          go_wp2_with fail
          go_quiet (fail)
          have HQ := hideO (ord_put (clT_weak (turnV t)) HP.out HS.out (show p ≤ l.length by have := HL.out; omega) HHI.out (by exact Or.inl (by omega)))
          have G4 := hideO (own_drewN G1.out (q + nq))
          have O4 : Hid (IsO (wo.drewN (q + nq)) g 2 (ints l)) := HO.out.of_heap rfl
          have B4 := hideO (below_drewN GB.out (q + nq))
          have hW : wr.drewN nq = wo.drewN (q + nq) := by rw [HWR.out]; exact World.drewN_drewN _ _ _
          have z4 : g < (wo.drewN (q + nq)).heap.size := hgl
          have zs4 : w.heap.size ≤ (wo.drewN (q + nq)).heap.size := hsz
          rw [hW]
          clear hW
          generalize wo.drewN (q + nq) = W at G4 O4 B4 z4 zs4 ⊢
          have HEM := hideO (Ze.OwnI.empty W)
          have HTA : Hid ((ints l).length = k) := by
            unfold Hid
            rw [ints_len, HL.out]
          have hpc : (p : Int) ≤ (cap : Int) := by omega
          have hpk' : (p : Int) ≤ (k : Int) := by omega
          go_wp2_with (at_builtin; refine wpList_append_own _ rfl (.tmp 33) (.tmp 36) 23 rfl W.heap.size 2 i0 (.int .i64 0) 1 8 Try.underlying23 hi0 hz0 hz1 hz2 rfl (by decide) _ 0 [] rfl HEM.out ⟨g, 0, none⟩ p cap ((ints (l.take p)).map (Value.int .i64)) rfl ?len1 ?new1 (own_cells _) (by unfold maxLen; omega) (by omega) (by simp) ?_)
          case len1 => simp [ints_len]; have := HL.out; omega
          case new1 => exact own_news (isO_take (O4.out.below ((Below.refl _ W).alloc (Nat.le_refl _) _) z4) p)
          intro v1 w1 hown1 hgrow1 _
          have HO1 : Hid (OwnI w1 W.heap.size v1 (ints (l.take p))) := by
            have e : (ints (l.take p)).length = p := by simp [ints_len]; have := HL.out; omega
            unfold Hid OwnI
            rw [e]
            exact hown1
          have hb1 : Below W.heap.size W w1 := ((Below.refl W.heap.size W).alloc (Nat.le_refl _) _).grown hgrow1 (by simp) (fun k hk => by simp [Value.ownBlock] at hk; omega)
          have z1 := hb1.size
          have O1 := hideO (O4.out.below hb1 z4)
          have B1 := hideO hb1
          clear hown1 hgrow1 hb1
          have HLT : Hid ((ints (l.take p)).length = p) := by
            unfold Hid
            simp [ints_len]
            have := HL.out
            omega
          go_wp2_with (at_builtin; refine wpList_append_own _ rfl (.tmp 38) (.tmp 40) 23 rfl W.heap.size 2 i0 (.int .i64 0) 1 8 Try.underlying23 hi0 hz0 hz1 hz2 rfl (by decide) _ _ _ rfl (Ze.OwnI.alloc HO1.out _) ⟨w1.heap.size, 0, none⟩ 1 1 [.int .i64 (k : Nat)] rfl rfl (one_newI _ _ _) (one_cellI _) (by rw [HLT.out]; unfold maxLen; omega) (by rw [HLT.out]; omega) (by simp; omega) ?_)
          intro v2 w2 hown2 hgrow2 _
          have HO2 : Hid (OwnI w2 W.heap.size v2 (ints (l.take p ++ [k]))) := by
            unfold Hid
            rw [ints_snoc]
            exact In.OwnI.snoc hown2
          have hb2 := In.app_one B1.out z1 (Nat.le_refl _) HO1.out hgrow2
          have z2 := hb2.size
          have O2 := hideO (O4.out.below hb2 z4)
          have B2 := hideO hb2
          clear hown2 hgrow2 hb2 B1 O1
          have HLT2 : Hid ((ints (l.take p ++ [k])).length = p + 1) := by
            unfold Hid
            simp [ints_len]
            have := HL.out
            omega
          have HLD : Hid ((ints (l.drop p)).length = k - p) := by
            unfold Hid
            simp [ints_len, HL.out]
          have HFIN : Hid (∀ v3 w3, w3.ownsRow W.heap.size 2 1 v3 (p + 1 + (k - p)) ((ints (l.take p ++ [k])).map (Value.int .i64) ++ (ints (l.drop p)).map (Value.int .i64)) → OwnI w3 W.heap.size v3 (ints (l.take p ++ [k] ++ l.drop p))) := fun v3 w3 h => by
            have e : ints (l.take p ++ [k] ++ l.drop p) = ints (l.take p ++ [k]) ++ ints (l.drop p) := by simp [ints]
            rw [e]
            apply Ze.OwnI.joined
            rw [HLT2.out, HLD.out]
            exact h
          have HOW2 : Hid (w2.ownsRow W.heap.size 2 1 v2 (p + 1) ((ints (l.take p ++ [k])).map (Value.int .i64))) := by
            have := HO2.out
            unfold OwnI at this
            rw [HLT2.out] at this
            exact this
          have hv2 : v2 ≠ .slice none 0 0 := own_ne HO2.out (by rw [HLT2.out]; omega)
          by_cases hkp : p = k
          · have HD0 : Hid (ints (l.drop p) = []) := by
              unfold Hid
              rw [hkp, ← HL.out, List.drop_length]
              rfl
            subst hkp
            by_cases hcp : cap = p
            · subst hcp
              go_wp2_with (at_builtin; refine wpList_append_own _ rfl (.tmp 42) (.tmp 45) 23 rfl W.heap.size 2 i0 (.int .i64 0) 1 8 Try.underlying23 hi0 hz0 hz1 hz2 rfl (by decide) _ _ _ rfl HOW2.out _ 0 _ [] rfl rfl (by intro j u hj; simp at hj) (by intro u hu; simp at hu) (by unfold maxLen; omega) (by omega) (by omega) ?_)
              intro v3 w3 hown3 hgrow3 _
              have HO3 := hideO (HFIN.out v3 w3 (by rw [HD0.out, Nat.sub_self, List.map_nil, List.append_nil]; exact hown3))
              have HN3 := hideO (own_ne HO3.out (by simp [ints_len]; omega))
              have hb3 := hideO (Ze.app_row B2.out z2 (Nat.le_refl _) HO2.out hgrow3)
              clear hown3 hgrow3
              go_wp2_with fail
              go_roundw
              case rel => exact ⟨cap + 1, _, by go_num, by omega, HQ.out.1, HQ.out.2, HO3.out.mono zs4, HN3.out, B4.out.trans (hb3.out.mono zs4)⟩
              case measure => simp [intOf]; omega
            · have hcp1 : ¬ (cap : Int) = (p : Int) := by omega
              have hcp2 : p < cap := by omega
              go_wp2_with (at_builtin; refine wpList_append_own _ rfl (.tmp 42) (.tmp 45) 23 rfl W.heap.size 2 i0 (.int .i64 0) 1 8 Try.underlying23 hi0 hz0 hz1 hz2 rfl (by decide) _ _ _ rfl HOW2.out _ 0 _ [] rfl rfl (by intro j u hj; simp at hj) (by intro u hu; simp at hu) (by unfold maxLen; omega) (by omega) (by omega) ?_)
              intro v3 w3 hown3 hgrow3 _
              have HO3 := hideO (HFIN.out v3 w3 (by rw [HD0.out, Nat.sub_self, List.map_nil, List.append_nil]; exact hown3))
              have HN3 := hideO (own_ne HO3.out (by simp [ints_len]; omega))
              have hb3 := hideO (Ze.app_row B2.out z2 (Nat.le_refl _) HO2.out hgrow3)
              clear hown3 hgrow3
              go_wp2_with fail
              go_roundw
              case rel => exact ⟨p + 1, _, by go_num, by omega, HQ.out.1, HQ.out.2, HO3.out.mono zs4, HN3.out, B4.out.trans (hb3.out.mono zs4)⟩
              case measure => simp [intOf]; omega
          · have hpk2 : p < k := by omega
            have hcp0 : ¬ cap = p := by omega
            have hcp1 : ¬ (cap : Int) = (p : Int) := by omega
            obtain ⟨dl, hdl⟩ : ∃ dl, dl = k - p := ⟨_, rfl⟩
            have edl : (k : Int) - (p : Int) = (dl : Int) := by omega
            have edl2 : k - p = dl := hdl.symm
            rw [← hdl] at HFIN HLD
            clear hkp hdl
            go_wp2_with (at_builtin; refine wpList_append_own _ rfl (.tmp 42) (.tmp 45) 23 rfl W.heap.size 2 i0 (.int .i64 0) 1 8 Try.underlying23 hi0 hz0 hz1 hz2 rfl (by decide) _ _ _ rfl HOW2.out ⟨g, p, none⟩ dl _ ((ints (l.drop p)).map (Value.int .i64)) rfl ?len3 ?new3 (own_cells _) ?c31 ?c32 (by omega) ?_)
            case len3 => rw [List.length_map, HLD.out, Nat.mul_one]
            case new3 => exact isO_drop O2.out p
            case c31 => have := HLD.out; unfold maxLen; omega
            case c32 => have := HLD.out; omega
            intro v3 w3 hown3 hgrow3 _
            have HO3 := hideO (HFIN.out v3 w3 hown3)
            have HN3 := hideO (own_ne HO3.out (by simp [ints_len]; omega))
            have hb3 := hideO (Ze.app_row B2.out z2 (Nat.le_refl _) HO2.out hgrow3)
            clear hown3 hgrow3
            go_wp2_with fail
            go_roundw
            case rel => exact ⟨k + 1, _, by go_num, by omega, HQ.out.1, HQ.out.2, HO3.out.mono zs4, HN3.out, B4.out.trans (hb3.out.mono zs4)⟩
            case measure => simp [intOf]; omega
    · obtain rfl : k = t.size := by omega
      go_wp2_with fail
      go_ret
      exact ⟨_, l, rfl, G1.out, ⟨HP.out, HS.out⟩, by simp, GB.out⟩

set_option maxHeartbeats 1000000 in
theorem orderOf_spec (t : ByteArray) (w : World) (hn : t.size ≤ 1048576) :
    Calls Try.prog 52 #[.string t] w fun e w' => ∃ v, e = .returned v ∧ OwnI w' w.heap.size v (ordR t) ∧ Below w.heap.size w w' := by
  by_cases hlong : 48 < t.size
  · rw [ordR_no hlong]
    have HB := hideO (block_spec t w hn)
    rw [decide_eq_false (by omega : ¬ t.size ≤ 48)] at HB
    have HW := hideO (Ze.OwnI.empty w)
    go_enter Try.func52, Try.ntmps52
    go_wp2_with fail
    refine HB.out.mono ?_
    rintro e w' ⟨rfl, hw⟩
    subst w'
    go_wp2_with fail
    go_ret
    exact ⟨_, rfl, HW.out, (Below.refl _ _).alloc (Nat.le_refl _) _⟩
  · have HB := hideO (block_spec t w hn)
    rw [decide_eq_true (by omega : t.size ≤ 48)] at HB
    have HOS := hideO (order_spec t w (by omega))
    have HLE : Hid (t.size ≤ 48) := by
      unfold Hid
      omega
    go_enter Try.func52, Try.ntmps52
    go_wp2_with fail
    refine HB.out.mono ?_
    rintro e w' ⟨rfl, hw⟩
    subst w'
    go_wp2_with fail
    refine HOS.out.mono ?_
    rintro e w' ⟨v, l, rfl, ho, hok, _, hb⟩
    have HO := hideO ho
    have HE := hideO (ordR_yes HLE.out hok)
    have HBB := hideO hb
    clear ho hok hb
    go_wp2_with fail
    go_ret
    exact ⟨_, rfl, by rw [HE.out]; exact HO.out, HBB.out⟩
end Go.Proofs.Ytmkpakhpjgocjaa.So
