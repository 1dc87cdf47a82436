/- Texts put together: CodesTop, PutWalks, PackWalks. -/
import Derived.Test.YtmkpakhpjgocjaaGreatPz20
import Derived.Test.YtmkpakhpjgocjaaGreatPz9
import Derived.Test.YtmkpakhpjgocjaaGreatBuilder
import Derived.Test.YtmkpakhpjgocjaaGreatBitWalks
import Derived.Laws.AppendOwn
import Derived.BigRegion
/- What both CodesOf answer. -/
namespace Go.Proofs.YtmkpakhpjgocjaaGreat.Bi
open Go.RowKit
open Go.Proofs.YtmkpakhpjgocjaaGreat.In (Ints)
open Go.Proofs.YtmkpakhpjgocjaaGreat.St (IsS OwnIn IsO)

theorem inn_mono {w : World} {lo hi lo' hi' : Nat} {v : Value} {l : List ByteArray} (h : OwnIn w lo hi v l) (h1 : lo' ≤ lo) (h2 : hi ≤ hi') : OwnIn w lo' hi' v l := by
  rcases h with h | ⟨g, cap, hv, hg, hh, ho⟩
  · exact .inl h
  · exact .inr ⟨g, cap, hv, by omega, by omega, ho⟩
/-- an empty list that was written out -/
theorem inn_empty (w : World) : OwnIn (w.alloc (.cells #[] 9)) w.heap.size (w.heap.size + 1) (.slice (some ⟨w.heap.size, 0, none⟩) 0 0) [] :=
  .inr ⟨w.heap.size, 0, rfl, Nat.le_refl _, Nat.lt_succ_self _, #[], heap_alloc_last w _, fun j hj => absurd hj (Nat.not_lt_zero j)⟩
theorem inn_codes {w w' : World} {l : List Int} (h : IsS w' w.heap.size 9 (codesV l)) : OwnIn w' w.heap.size w'.heap.size (.slice (some ⟨w.heap.size, 0, none⟩) l.length l.length) (codesV l) := by
  have := inn_mono (hi' := w'.heap.size) (h.inn l.length) (Nat.le_refl _) h.lt
  rw [codesV_length] at this
  exact this

set_option maxHeartbeats 1000000 in
theorem codesOf_impl (l : List Int) (a : Option Addr) (cap B : Nat) (w : World) (hi : Ints w B a l) (hB : B ≤ w.heap.size) (hn : l.length ≤ 1048576) :
    Calls Tryz.prog 59 #[.slice a l.length cap] w fun e w' => ∃ v, e = .returned v ∧ OwnIn w' w.heap.size w'.heap.size v (codesR l) ∧ Below w.heap.size w w' := by
  cases hr : right l with
  | true =>
    rw [codesR_yes hr]
    refine (codes_yes l a cap B w hi hB hr).mono ?_
    rintro e w' ⟨rfl, hs, hb⟩
    exact ⟨_, rfl, inn_codes hs, hb⟩
  | false =>
    rw [codesR_no hr]
    have HR := hideB (right_impl l a cap B w hi hn)
    rw [hr] at HR
    clear hi hr
    generalize l.length = n at HR hn ⊢
    go_enter Tryz.func59, Tryz.ntmps59
    go_wp2_with fail
    refine HR.out.mono ?_
    rintro e w' ⟨rfl, hw⟩
    subst w'
    go_wp2_with fail
    go_ret
    exact ⟨_, rfl, .inl ⟨rfl, rfl⟩, Below.refl _ _⟩

end Go.Proofs.YtmkpakhpjgocjaaGreat.Bi

/- The walks of both CodePut. -/
namespace Go.Proofs.YtmkpakhpjgocjaaGreat.Bi
open Go.RowKit
open Go.Proofs.YtmkpakhpjgocjaaGreat.In (Ints)
open Go.Proofs.YtmkpakhpjgocjaaGreat.St (IsS)
open Go.Proofs.YtmkpakhpjgocjaaGreat.Nu (ret_strJ own_string bv)

theorem getD_get {l : List Int} {i : Nat} (hi : i < l.length) : l.getD i 0 = l[i] := by rw [List.getD_eq_getElem?_getD, List.getElem?_eq_getElem hi]; rfl
theorem nonempty (s : ByteArray) (h : 1 ≤ s.size) : s.toList.isEmpty = false := by
  rw [ByteArray.toList_eq]
  cases hd : s.data.toList with
  | nil => exfalso; have := congrArg List.length hd; rw [Array.length_toList] at this; exact absurd (show s.size = 0 from this) (by omega)
  | cons _ _ => rfl
theorem okS_nat {l : List Int} {i : Nat} (h : i < l.length) (h0 : 0 < l.getD i 0) : okS l (i : Int) := ⟨by omega, by omega, by simpa using h0⟩

set_option maxRecDepth 100000 in
set_option maxHeartbeats 4000000 in
theorem put_yes (l s : List Int) (a a' : Option Addr) (cap cap' : Nat) (w : World) (hl : Ints w w.heap.size a l) (hs : Ints w w.heap.size a' s) (hm : ¬ 400 < s.length) (hw : whole l = true) :
    Calls Tryz.prog 34 #[.slice a l.length cap, .slice a' s.length cap'] w fun e w' => e = .returned (.string (putR l s)) ∧ Below w.heap.size w w' := by
  have HW := hideB (whole_impl l a cap w.heap.size w hl (by have := whole_len hw; omega))
  rw [hw] at HW
  have HC := hideB (codes_yes l a cap w.heap.size w hl (Nat.le_refl _) (whole_right hw))
  have HS := hideB hs
  have HK := hideB (whole_ok hw)
  have HWW := hideB hw
  have hn := whole_len hw
  have HCL := hideB (codesV_length l)
  have HYES := hideB (fun (h : ∀ x ∈ s, okS l x) => putR_yes hm hw h)
  have HBAD := hideB (fun (j : Nat) (hj : j < s.length) (h : ¬ okS l s[j]) => putR_bad hj h)
  clear hl hs hw
  obtain ⟨n, hln⟩ : ∃ n, n = l.length := ⟨_, rfl⟩
  obtain ⟨m, hms⟩ : ∃ m, m = s.length := ⟨_, rfl⟩
  obtain ⟨r, hr⟩ : ∃ r, r = putR l s := ⟨_, rfl⟩
  have HLN := hideB hln
  have HMS := hideB hms
  rw [← hr] at HYES HBAD ⊢
  rw [← hln] at hn HW HC HCL ⊢
  rw [← hms] at hm ⊢
  clear hln hms hr
  have hd4 : decide ((400 : Int) < m) = false := decide_eq_false (by omega)
  go_enter Tryz.func34, Tryz.ntmps34
  go_wp2_with fail
  refine HW.out.mono ?_
  rintro e w' ⟨rfl, hw⟩
  subst w'
  go_wp2_with fail
  refine HC.out.mono ?_
  rintro e w1 ⟨rfl, hi1, hb1⟩
  have X1 := hideB hi1
  have B1 := hideB hb1
  have z1 : w.heap.size < w1.heap.size := hi1.lt
  clear hi1 hb1
  go_wp2_with fail
  go_loopw [21] (fun i wr => ∃ k : Nat, i = .int .i64 k ∧ k ≤ m ∧ (∀ j (hj : j < s.length), j < k → okS l s[j]) ∧ Lib.IsBuilder 36 5 w1.heap.size w1.heap.size (Lib.byteCells (putL l (s.take k))) wr ∧ Below w1.heap.size w1 wr ∧ w1.heap.size ≤ wr.heap.size) (fun i _ => m - (intOf i).toNat)
  case atStart => exact ⟨0, rfl, Nat.zero_le _, fun j hj h0 => absurd h0 (Nat.not_lt_zero j), Lib.fresh_isBuilder _ _ w1, (Below.refl _ _).alloc (Nat.le_refl _) _, by simp⟩
  case round =>
    obtain ⟨k, rfl, hk, hall, hbu, hbel, hbz⟩ := hrel
    have HA := hideB hall
    have HBU := hideB hbu
    have GB := hideB hbel
    clear hall hbu hbel
    by_cases hlt : k < m
    · have hkl : k < s.length := by rw [← HMS.out]; exact hlt
      obtain ⟨b, off, rfl, hb, hc⟩ := (HS.out.below (B1.out.trans (GB.out.mono (Nat.le_of_lt z1)))).some (by omega)
      have ci := hc k hkl
      have HM := hideB (putL_more (l := l) hkl)
      have HB1 := hideB (HBAD.out k hkl)
      obtain ⟨x, hx⟩ : ∃ x, x = s[k] := ⟨_, rfl⟩
      have HX := hideB hx
      rw [← hx] at ci HM HB1
      clear hc hx
      by_cases h0 : x < 0
      · have HE := hideB (HB1.out (fun h => by have := h.1; omega))
        go_wp2_with fail
        go_ret
        exact ⟨ret_strJ HE.out.symm, B1.out.trans (GB.out.mono (Nat.le_of_lt z1))⟩
      · have hd0 : decide (x < 0) = false := decide_eq_false h0
        obtain ⟨i, rfl⟩ : ∃ i : Nat, x = i := ⟨x.toNat, by omega⟩
        by_cases h1 : n ≤ i
        · have HE := hideB (HB1.out (fun h => by have := h.2.1; have := HLN.out; omega))
          have hge : (n : Int) ≤ i := by omega
          go_wp2_with fail
          go_ret
          exact ⟨ret_strJ HE.out.symm, B1.out.trans (GB.out.mono (Nat.le_of_lt z1))⟩
        · have hd1 : decide ((n : Int) ≤ i) = false := decide_eq_false (by omega)
          have hil : i < l.length := by rw [← HLN.out]; omega
          have hin : i < n := by omega
          have hiv : i < (codesV l).length := by rw [HCL.out]; omega
          have cc := (X1.out.below GB.out z1).cell hiv
          rw [codes_get l HK.out i hiv] at cc
          have HCO := hideB (codeOf_none l i)
          have HOK := hideB (okS_nat hil)
          have hcl := codeOf_le l HK.out i
          obtain ⟨c, hcc⟩ : ∃ c, c = codeOf l i := ⟨_, rfl⟩
          have HCC := hideB hcc
          rw [← hcc] at cc HCO hcl
          clear hcc
          by_cases hp : 0 < l.getD i 0
          · have hne : c.toList.isEmpty = false := nonempty c (by rw [HCC.out, codeOf_size]; omega)
            have HOK2 := hideB (HOK.out hp)
            have HLE : Hid ((Lib.byteCells (putL l (s.take k))).length + c.size ≤ 140737488355328) := by
              unfold Hid
              have h1 := putL_le l HK.out (s.take k)
              rw [List.length_take] at h1
              rw [Lib.byteCells_length]
              omega
            have HNX : Hid (Lib.byteCells (putL l (s.take k)) ++ Lib.strCells c = Lib.byteCells (putL l (s.take (k + 1)))) := by
              unfold Hid
              rw [HM.out, Lib.byteCells_append, Lib.strCells_eq, HCC.out]
              rfl
            have HWR := hideB (Sb.write_any w1.heap.size w1.heap.size _ c wr HBU.out HLE.out hbz)
            clear hp hcl
            go_wp2_with fail
            refine HWR.out.mono ?_
            rintro e w2 ⟨rfl, hbt, hb2⟩
            rw [HNX.out] at hbt
            have HBT := hideB hbt
            have B2 := hideB (GB.out.trans hb2)
            have z2 := hb2.size
            clear hbt hb2
            go_wp2_with fail
            go_roundw
            case rel =>
              refine ⟨k + 1, by go_num, by omega, fun j hj hjk => ?_, Or.inr HBT.out, B2.out, by omega⟩
              by_cases e : j = k
              · subst e
                rw [← HX.out]
                exact HOK2.out
              · exact HA.out j hj (by omega)
            case measure => simp [intOf]; omega
          · have hce := HCO.out hp
            have HE := hideB (HB1.out (fun h => hp (by simpa using h.2.2)))
            subst hce
            clear hp hcl
            go_wp2_with fail
            go_ret
            exact ⟨ret_strJ HE.out.symm, B1.out.trans (GB.out.mono (Nat.le_of_lt z1))⟩
    · have HE : Hid (r = ⟨(putL l (s.take k)).toArray⟩) := by
        unfold Hid
        rw [List.take_of_length_le (by have := HMS.out; omega)]
        exact HYES.out (fun x hx => by
          obtain ⟨j, hj, rfl⟩ := List.getElem_of_mem hx
          exact HA.out j hj (by have := HMS.out; omega))
      have HST := hideB (Sb.string_any w1.heap.size w1.heap.size _ wr HBU.out hbz)
      go_wp2_with fail
      refine HST.out.mono ?_
      rintro e w2 ⟨rfl, hb2⟩
      have B2 := hideB (GB.out.trans hb2)
      clear hb2
      go_wp2_with fail
      go_ret
      exact ⟨ret_strJ HE.out.symm, B1.out.trans (B2.out.mono (Nat.le_of_lt z1))⟩

set_option maxHeartbeats 1000000 in
theorem put_impl (l s : List Int) (a a' : Option Addr) (cap cap' : Nat) (w : World) (hl : Ints w w.heap.size a l) (hs : Ints w w.heap.size a' s) (hn : l.length ≤ 1048576) (hm : s.length ≤ 1048576) :
    Calls Tryz.prog 34 #[.slice a l.length cap, .slice a' s.length cap'] w fun e w' => e = .returned (.string (putR l s)) ∧ Below w.heap.size w w' := by
  by_cases h4 : 400 < s.length
  · have HE := hideB (putR_no (l := l) (Or.inl h4))
    generalize putR l s = r at HE ⊢
    clear hl hs
    generalize s.length = m at h4 hm ⊢
    generalize l.length = n at hn ⊢
    go_enter Tryz.func34, Tryz.ntmps34
    go_wp2_with fail
    go_ret
    exact ⟨ret_strJ HE.out.symm, Below.refl _ _⟩
  · cases hw : whole l with
    | true => exact put_yes l s a a' cap cap' w hl hs h4 hw
    | false =>
      have HE := hideB (putR_no (s := s) (Or.inr hw))
      have HW := hideB (whole_impl l a cap w.heap.size w hl hn)
      rw [hw] at HW
      have hd4 : decide ((400 : Int) < s.length) = false := decide_eq_false (by omega)
      generalize putR l s = r at HE ⊢
      clear hl hs hw
      generalize s.length = m at h4 hm hd4 ⊢
      generalize l.length = n at hn HW ⊢
      go_enter Tryz.func34, Tryz.ntmps34
      go_wp2_with fail
      refine HW.out.mono ?_
      rintro e w' ⟨rfl, hw⟩
      subst w'
      go_wp2_with fail
      go_ret
      exact ⟨ret_strJ HE.out.symm, Below.refl _ _⟩
end Go.Proofs.YtmkpakhpjgocjaaGreat.Bi

/- The walks of both BitsPack. -/
namespace Go.Proofs.YtmkpakhpjgocjaaGreat.Bi
open Go.RowKit
open Go.Proofs.YtmkpakhpjgocjaaGreat.Sh
open Go.Proofs.YtmkpakhpjgocjaaGreat.Nu (ret_strJ bv own_string app_below)

/-- a text's byte at a place, as a walk asks for it -/
theorem byte_at (t : ByteArray) (j : Nat) (h : j < t.size) : ∃ y : UInt8, t[j] = y ∧ y.toNat = bt t j := ⟨t[j], rfl, bt_get t j h⟩
theorem all_more (t : ByteArray) (k : Nat) (h : ∀ j, j < k → bt t j = 48 ∨ bt t j = 49) (hk : bt t k = 48 ∨ bt t k = 49) : ∀ j, j < k + 1 → bt t j = 48 ∨ bt t j = 49 := by
  intro j hj
  by_cases e : j = k
  · rw [e]; exact hk
  · exact h j (by omega)

set_option maxHeartbeats 1000000 in
theorem good_impl (t : ByteArray) (w : World) (ht : t.size ≤ 1048576) :
    Calls Tryz.prog 57 #[.string t] w fun e w' => e = .returned (.bool (good t)) ∧ w' = w := by
  go_enter Tryz.func57, Tryz.ntmps57
  go_wp2_with fail
  go_loopw [6] (fun i wr => ∃ k : Nat, i = .int .i64 k ∧ k ≤ t.size ∧ (∀ j, j < k → bt t j = 48 ∨ bt t j = 49) ∧ wr = w) (fun i _ => t.size - (intOf i).toNat)
  case atStart => exact ⟨0, rfl, Nat.zero_le _, fun j hj => absurd hj (Nat.not_lt_zero j), rfl⟩
  case round =>
    obtain ⟨k, rfl, hk, hall, hw⟩ := hrel
    subst hw
    have HA := hideB hall
    clear hall
    by_cases hlt : k < t.size
    · obtain ⟨y, b0, hy⟩ := byte_at t k hlt
      have HY := hideB hy
      by_cases e8 : (y.toNat : Int) = 48
      · have n8 : ((y.toNat : Int) != 48) = false := by rw [e8]; rfl
        have HM : Hid (∀ j, j < k + 1 → bt t j = 48 ∨ bt t j = 49) := all_more t k HA.out (by rw [← HY.out]; omega)
        clear hy e8
        go_wp2_with fail
        go_roundw
        case rel => exact ⟨k + 1, by go_num, by omega, HM.out, trivial⟩
        case measure => simp [intOf]; omega
      · have n8 : ((y.toNat : Int) != 48) = true := by rw [bne_iff_ne]; exact e8
        by_cases e9 : (y.toNat : Int) = 49
        · have n9 : ((y.toNat : Int) != 49) = false := by rw [e9]; rfl
          have HM : Hid (∀ j, j < k + 1 → bt t j = 48 ∨ bt t j = 49) := all_more t k HA.out (by rw [← HY.out]; omega)
          clear hy e8 e9
          go_wp2_with fail
          go_roundw
          case rel => exact ⟨k + 1, by go_num, by omega, HM.out, trivial⟩
          case measure => simp [intOf]; omega
        · have n9 : ((y.toNat : Int) != 49) = true := by rw [bne_iff_ne]; exact e9
          have HN := hideB (good_not hlt (by rw [← HY.out]; omega) (by rw [← HY.out]; omega))
          clear hy e8 e9
          go_wp2_with fail
          go_ret
          exact ⟨ret_boolB HN.out.symm, rfl⟩
    · have HG := hideB (good_of (t := t) (fun j hj => HA.out j (by omega)))
      go_wp2_with fail
      go_ret
      exact ⟨ret_boolB HG.out.symm, rfl⟩

set_option maxHeartbeats 1000000 in
theorem good_spec (t : ByteArray) (w : World) (ht : t.size ≤ 1048576) :
    Calls Tryz.prog 70 #[.string t] w fun e w' => e = .returned (.bool (good t)) ∧ w' = w := by
  go_enter Tryz.func70, Tryz.ntmps70
  go_wp2_with fail
  go_loopw [3] (fun i wr => ∃ k : Nat, i = .int .i64 k ∧ k ≤ t.size ∧ (∀ j, j < k → bt t j = 48 ∨ bt t j = 49) ∧ wr = w) (fun i _ => t.size - (intOf i).toNat)
  case atStart => exact ⟨0, rfl, Nat.zero_le _, fun j hj => absurd hj (Nat.not_lt_zero j), rfl⟩
  case round =>
    obtain ⟨k, rfl, hk, hall, hw⟩ := hrel
    subst hw
    have HA := hideB hall
    clear hall
    by_cases hlt : k < t.size
    · obtain ⟨y, b0, hy⟩ := byte_at t k hlt
      have HY := hideB hy
      by_cases e8 : (y.toNat : Int) = 48
      · have n8 : ((y.toNat : Int) != 48) = false := by rw [e8]; rfl
        have HM : Hid (∀ j, j < k + 1 → bt t j = 48 ∨ bt t j = 49) := all_more t k HA.out (by rw [← HY.out]; omega)
        clear hy e8
        go_wp2_with fail
        go_roundw
        case rel => exact ⟨k + 1, by go_num, by omega, HM.out, trivial⟩
        case measure => simp [intOf]; omega
      · have n8 : ((y.toNat : Int) != 48) = true := by rw [bne_iff_ne]; exact e8
        by_cases e9 : (y.toNat : Int) = 49
        · have n9 : ((y.toNat : Int) != 49) = false := by rw [e9]; rfl
          have HM : Hid (∀ j, j < k + 1 → bt t j = 48 ∨ bt t j = 49) := all_more t k HA.out (by rw [← HY.out]; omega)
          clear hy e8 e9
          go_wp2_with fail
          go_roundw
          case rel => exact ⟨k + 1, by go_num, by omega, HM.out, trivial⟩
          case measure => simp [intOf]; omega
        · have n9 : ((y.toNat : Int) != 49) = true := by rw [bne_iff_ne]; exact e9
          have HN := hideB (good_not hlt (by rw [← HY.out]; omega) (by rw [← HY.out]; omega))
          clear hy e8 e9
          go_wp2_with fail
          go_ret
          exact ⟨ret_boolB HN.out.symm, rfl⟩
    · have HG := hideB (good_of (t := t) (fun j hj => HA.out j (by omega)))
      go_wp2_with fail
      go_ret
      exact ⟨ret_boolB HG.out.symm, rfl⟩

set_option maxRecDepth 100000 in
set_option maxHeartbeats 2000000 in
theorem pack_yes (t : ByteArray) (w : World) (ht : ¬ 8000 < t.size) (hg : good t = true) :
    Calls Tryz.prog 33 #[.string t] w fun e w' => e = .returned (.string (packV t)) ∧ Below w.heap.size w w' := by
  obtain ⟨i0, hi, hz0, hz1, hz2⟩ := info_parts Nu.Tryz.infoJ5
  obtain ⟨m, hm⟩ : ∃ m, m = (t.size + 7) / 8 := ⟨_, rfl⟩
  have hmi : ((t.size : Int) + 8 - 1) / 8 = (m : Int) := by omega
  have HMM := hideB hm
  have HMI := hideB hmi
  have hd8 : decide (8000 < (t.size : Int)) = false := decide_eq_false (by omega)
  clear hmi
  have HG := hideB (good_impl t w (by omega))
  rw [hg] at HG
  have HA := hideB (good_yes hg)
  clear hm hg
  have hm2 : m ≤ 1001 := by have := HMM.out; omega
  go_enter Tryz.func33, Tryz.ntmps33
  go_wp2_with fail
  refine HG.out.mono ?_
  rintro e w' ⟨rfl, hw⟩
  subst w'
  go_wp2_with (at_make; refine wpList_make_full _ rfl (.tmp 17) (.tmp 17) 33 rfl w.heap.size 5 i0 (.int .u8 0) 1 Tryz.underlying33 hi hz0 hz1 .i64 .i64 _ _ m rfl rfl HMI.out HMI.out (by rw [hz2]; omega) (by unfold maxLen; omega) (Nat.le_refl _) ?_; intro w1 hown1 hgrow1; have HR := hideB (made_row hown1); have HB := hideB ((Below.refl w.heap.size w).grown hgrow1 (Nat.le_refl _) (by simp)); clear hown1 hgrow1)
  go_loopw [21] (fun i wr => ∃ k : Nat, i = .int .i64 k ∧ k ≤ t.size ∧ IsB wr w.heap.size 5 .u8 m (fun j => (pkK t k j : Nat)) ∧ Below w.heap.size w wr) (fun i _ => t.size - (intOf i).toNat)
  case atStart => exact ⟨0, rfl, by omega, IsB.congr HR.out (fun j hj => by rw [pkK_zero]; rfl), HB.out⟩
  case round =>
    obtain ⟨k, rfl, hk, hr, hbel⟩ := hrel
    have HR2 := hideB hr
    by_cases hlt : k < t.size
    · obtain ⟨y, b0, hy⟩ := byte_at t k hlt
      have h01 := HA.out k hlt
      rw [← hy] at h01
      have HY := hideB hy
      clear hy
      by_cases e9 : (y.toNat : Int) = 49
      · have n9 : ((y.toNat : Int) == 49) = true := by rw [e9]; rfl
        have HO : Hid (one t k = 1) := by
          unfold Hid one
          rw [if_pos ⟨hlt, by rw [← HY.out]; omega⟩]
        obtain ⟨q, hq⟩ : ∃ q : Nat, q = k / 8 := ⟨_, rfl⟩
        obtain ⟨r, hrr⟩ : ∃ r : Nat, r = k % 8 := ⟨_, rfl⟩
        have hqi : (k : Int) / 8 = q := by omega
        have hri : (k : Int) % 8 = r := by omega
        have hqm : q < m := by have := HMM.out; omega
        have hr8 : r < 8 := by omega
        have ce := hr.cell (j := q) hqm
        have cf := hr.frozen q
        obtain ⟨s, hs⟩ : ∃ s : Nat, s = 7 - r := ⟨_, rfl⟩
        have hsi : (7 : Int) - r = s := by omega
        have HV : Hid (bits BinOp.or IntKind.u8 ((pkK t k q : Nat) : Int) ((2 : Int) ^ s) = ((pk t (k / 8) (k % 8) + 2 ^ (7 - k % 8) : Nat) : Int)) := by
          unfold Hid
          rw [hq, pkK_here, ← hrr, ← hs]
          have := pk_or t (k / 8) r hr8
          rw [← hs] at this
          rw [← this]
          simp
        have hpw : (2 : Int) ^ s < 256 := by
          have := Nat.pow_le_pow_right (n := 2) (by decide) (show s ≤ 7 by omega)
          have hcast : ((2 ^ s : Nat) : Int) = (2 : Int) ^ s := by simp
          omega
        have hpw0 : (0 : Int) < (2 : Int) ^ s := by
          have := Nat.pow_pos (n := s) (a := 2) (by decide)
          have hcast : ((2 ^ s : Nat) : Int) = (2 : Int) ^ s := by simp
          omega
        have HQ := hideB hq
        clear hr e9 h01 hq hrr hs
        generalize pkK t k q = pv at ce HV
        go_wp2_with fail
        go_region
        all_goals (try go_wp2_with fail)
        all_goals go_roundw
        case rel => exact ⟨k + 1, by go_num, by omega, IsB.congr (HR2.out.set q _) (fun j hj => by rw [HQ.out]; exact pkK_set t k j _ HO.out HV.out), Below.drew (hbel.setCell (Nat.le_refl _) _)⟩
        case measure => simp [intOf]; omega
      · have n9 : ((y.toNat : Int) == 49) = false := by rw [beq_eq_false_iff_ne]; exact e9
        have HO : Hid (one t k = 0) := by
          unfold Hid one
          rw [if_neg (by rw [← HY.out]; omega)]
        clear hr e9 h01
        go_wp2_with fail
        go_roundw
        case rel => exact ⟨k + 1, by go_num, by omega, IsB.congr HR2.out (fun j hj => pkK_skip t k j HO.out), hbel⟩
        case measure => simp [intOf]; omega
    · obtain rfl : k = t.size := by omega
      have hcv := hr.str (P := Tryz.prog) (src := 33) (dst := 9) m m (Nat.le_refl _) (fun j _ => pkK_lt t t.size j) Tryz.underlying33 Tryz.underlying5 Tryz.underlying9
      rw [HMM.out, pack_all, ← HMM.out] at hcv
      clear hr
      go_wp2_with fail
      go_ret
      exact ⟨rfl, hbel⟩

set_option maxHeartbeats 1000000 in
theorem pack_impl (t : ByteArray) (w : World) (ht : t.size ≤ 1048576) :
    Calls Tryz.prog 33 #[.string t] w fun e w' => e = .returned (.string (packR t)) ∧ Below w.heap.size w w' := by
  by_cases h : 8000 < t.size
  · have HE := hideB (packR_no t (Or.inl h))
    go_enter Tryz.func33, Tryz.ntmps33
    go_wp2_with fail
    go_ret
    exact ⟨ret_strJ HE.out.symm, Below.refl _ _⟩
  · cases hg : good t with
    | false =>
      have HE := hideB (packR_no t (Or.inr hg))
      have HG := hideB (good_impl t w (by omega))
      rw [hg] at HG
      go_enter Tryz.func33, Tryz.ntmps33
      go_wp2_with fail
      refine HG.out.mono ?_
      rintro e w' ⟨rfl, hw⟩
      subst w'
      go_wp2_with fail
      go_ret
      exact ⟨ret_strJ HE.out.symm, Below.refl _ _⟩
    | true =>
      rw [packR_yes t h hg]
      exact pack_yes t w h hg
end Go.Proofs.YtmkpakhpjgocjaaGreat.Bi
