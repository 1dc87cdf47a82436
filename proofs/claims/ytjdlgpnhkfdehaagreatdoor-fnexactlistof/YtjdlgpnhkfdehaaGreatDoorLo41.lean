/- Texts put together: CodesTop, PutWalks, PackWalks, PkImpl, PcImpl. -/
import Derived.Test.YtjdlgpnhkfdehaaGreatDoorLo40
import Derived.Test.YtjdlgpnhkfdehaaGreatDoorLo28
import Derived.Test.YtjdlgpnhkfdehaaGreatDoorLo20
import Derived.Test.YtjdlgpnhkfdehaaGreatDoorLo18
import Derived.Laws.AppendOwn
import Derived.BigRegion
import Derived.Test.YtjdlgpnhkfdehaaGreatDoorLo32
import Derived.Test.YtjdlgpnhkfdehaaGreatDoorLo39
import Derived.Test.YtjdlgpnhkfdehaaGreatDoorLo38
import Derived.Deep.RegionHeld3
import Derived.Deep.CutRange
import Derived.Test.YtjdlgpnhkfdehaaGreatDoorLo16
/- What both CodesOf answer. -/
namespace Go.Proofs.YtjdlgpnhkfdehaaGreatDoor.Bi
open Go.RowKit
open Go.Proofs.YtjdlgpnhkfdehaaGreatDoor.In (Ints)
open Go.Proofs.YtjdlgpnhkfdehaaGreatDoor.St (IsS OwnIn IsO)
end Go.Proofs.YtjdlgpnhkfdehaaGreatDoor.Bi


/- The walks of both CodePut. -/
namespace Go.Proofs.YtjdlgpnhkfdehaaGreatDoor.Bi
open Go.RowKit
open Go.Proofs.YtjdlgpnhkfdehaaGreatDoor.In (Ints)
open Go.Proofs.YtjdlgpnhkfdehaaGreatDoor.St (IsS)
open Go.Proofs.YtjdlgpnhkfdehaaGreatDoor.Nu (ret_strJ own_string bv)
theorem getD_get {l : List Int} {i : Nat} (hi : i < l.length) : l.getD i 0 = l[i] := by rw [List.getD_eq_getElem?_getD, List.getElem?_eq_getElem hi]; rfl
theorem nonempty (s : ByteArray) (h : 1 ≤ s.size) : s.toList.isEmpty = false := by
  rw [ByteArray.toList_eq]
  cases hd : s.data.toList with
  | nil => exfalso; have := congrArg List.length hd; rw [Array.length_toList] at this; exact absurd (show s.size = 0 from this) (by omega)
  | cons _ _ => rfl
theorem okS_nat {l : List Int} {i : Nat} (h : i < l.length) (h0 : 0 < l.getD i 0) : okS l (i : Int) := ⟨by omega, by omega, by simpa using h0⟩
set_option maxRecDepth 100000 in
set_option maxHeartbeats 4000000 in
theorem put_yes (l s : List Int) (a a' : Option Addr) (cap cap' : Nat) (w : World) (hl : Ints w w.heap.size a l) (hs : Ints w w.heap.size a' s) (hm : ¬ 400 < s.length) (hw : whole l = true) :
    Calls Tryz.prog 112 #[.slice a l.length cap, .slice a' s.length cap'] w fun e w' => e = .returned (.string (putR l s)) ∧ Below w.heap.size w w' := by
  have HW := hideB (whole_impl l a cap w.heap.size w hl (by have := whole_len hw; omega))
  rw [hw] at HW
  have HC := hideB (codes_yes l a cap w.heap.size w hl (Nat.le_refl _) (whole_right hw))
  have HS := hideB hs
  have HK := hideB (whole_ok hw)
  have HWW := hideB hw
  have hn := whole_len hw
  have HCL := hideB (codesV_length l)
  have HYES := hideB (fun (h : ∀ x ∈ s, okS l x) => putR_yes hm hw h)
  have HBAD := hideB (fun (j : Nat) (hj : j < s.length) (h : ¬ okS l s[j]) => putR_bad hj h)
  clear hl hs hw
  obtain ⟨n, hln⟩ : ∃ n, n = l.length := ⟨_, rfl⟩
  obtain ⟨m, hms⟩ : ∃ m, m = s.length := ⟨_, rfl⟩
  obtain ⟨r, hr⟩ : ∃ r, r = putR l s := ⟨_, rfl⟩
  have HLN := hideB hln
  have HMS := hideB hms
  rw [← hr] at HYES HBAD ⊢
  rw [← hln] at hn HW HC HCL ⊢
  rw [← hms] at hm ⊢
  clear hln hms hr
  have hd4 : decide ((400 : Int) < m) = false := decide_eq_false (by omega)
  go_enter Tryz.func112, Tryz.ntmps112
  go_wp2_with fail
  refine HW.out.mono ?_
  rintro e w' ⟨rfl, hw⟩
  subst w'
  go_wp2_with fail
  refine HC.out.mono ?_
  rintro e w1 ⟨rfl, hi1, hb1⟩
  have X1 := hideB hi1
  have B1 := hideB hb1
  have z1 : w.heap.size < w1.heap.size := hi1.lt
  clear hi1 hb1
  go_wp2_with fail
  go_loopw [21] (fun i wr => ∃ k : Nat, i = .int .i64 k ∧ k ≤ m ∧ (∀ j (hj : j < s.length), j < k → okS l s[j]) ∧ Lib.IsBuilder 112 5 w1.heap.size w1.heap.size (Lib.byteCells (putL l (s.take k))) wr ∧ Below w1.heap.size w1 wr ∧ w1.heap.size ≤ wr.heap.size) (fun i _ => m - (intOf i).toNat)
  case atStart => exact ⟨0, rfl, Nat.zero_le _, fun j hj h0 => absurd h0 (Nat.not_lt_zero j), Lib.fresh_isBuilder _ _ w1, (Below.refl _ _).alloc (Nat.le_refl _) _, by simp⟩
  case round =>
    obtain ⟨k, rfl, hk, hall, hbu, hbel, hbz⟩ := hrel
    have HA := hideB hall
    have HBU := hideB hbu
    have GB := hideB hbel
    clear hall hbu hbel
    by_cases hlt : k < m
    · have hkl : k < s.length := by rw [← HMS.out]; exact hlt
      obtain ⟨b, off, rfl, hb, hc⟩ := (HS.out.below (B1.out.trans (GB.out.mono (Nat.le_of_lt z1)))).some (by omega)
      have ci := hc k hkl
      have HM := hideB (putL_more (l := l) hkl)
      have HB1 := hideB (HBAD.out k hkl)
      obtain ⟨x, hx⟩ : ∃ x, x = s[k] := ⟨_, rfl⟩
      have HX := hideB hx
      rw [← hx] at ci HM HB1
      clear hc hx
      by_cases h0 : x < 0
      · have HE := hideB (HB1.out (fun h => by have := h.1; omega))
        go_wp2_with fail
        go_ret
        exact ⟨ret_strJ HE.out.symm, B1.out.trans (GB.out.mono (Nat.le_of_lt z1))⟩
      · have hd0 : decide (x < 0) = false := decide_eq_false h0
        obtain ⟨i, rfl⟩ : ∃ i : Nat, x = i := ⟨x.toNat, by omega⟩
        by_cases h1 : n ≤ i
        · have HE := hideB (HB1.out (fun h => by have := h.2.1; have := HLN.out; omega))
          have hge : (n : Int) ≤ i := by omega
          go_wp2_with fail
          go_ret
          exact ⟨ret_strJ HE.out.symm, B1.out.trans (GB.out.mono (Nat.le_of_lt z1))⟩
        · have hd1 : decide ((n : Int) ≤ i) = false := decide_eq_false (by omega)
          have hil : i < l.length := by rw [← HLN.out]; omega
          have hin : i < n := by omega
          have hiv : i < (codesV l).length := by rw [HCL.out]; omega
          have cc := (X1.out.below GB.out z1).cell hiv
          rw [codes_get l HK.out i hiv] at cc
          have HCO := hideB (codeOf_none l i)
          have HOK := hideB (okS_nat hil)
          have hcl := codeOf_le l HK.out i
          obtain ⟨c, hcc⟩ : ∃ c, c = codeOf l i := ⟨_, rfl⟩
          have HCC := hideB hcc
          rw [← hcc] at cc HCO hcl
          clear hcc
          by_cases hp : 0 < l.getD i 0
          · have hne : c.toList.isEmpty = false := nonempty c (by rw [HCC.out, codeOf_size]; omega)
            have HOK2 := hideB (HOK.out hp)
            have HLE : Hid ((Lib.byteCells (putL l (s.take k))).length + c.size ≤ 140737488355328) := by
              unfold Hid
              have h1 := putL_le l HK.out (s.take k)
              rw [List.length_take] at h1
              rw [Lib.byteCells_length]
              omega
            have HNX : Hid (Lib.byteCells (putL l (s.take k)) ++ Lib.strCells c = Lib.byteCells (putL l (s.take (k + 1)))) := by
              unfold Hid
              rw [HM.out, Lib.byteCells_append, Lib.strCells_eq, HCC.out]
              rfl
            have HWR := hideB (Sb.write_any w1.heap.size w1.heap.size _ c wr HBU.out HLE.out hbz)
            clear hp hcl
            go_wp2_with fail
            refine HWR.out.mono ?_
            rintro e w2 ⟨rfl, hbt, hb2⟩
            rw [HNX.out] at hbt
            have HBT := hideB hbt
            have B2 := hideB (GB.out.trans hb2)
            have z2 := hb2.size
            clear hbt hb2
            go_wp2_with fail
            go_roundw
            case rel =>
              refine ⟨k + 1, by go_num, by omega, fun j hj hjk => ?_, Or.inr HBT.out, B2.out, by omega⟩
              by_cases e : j = k
              · subst e
                rw [← HX.out]
                exact HOK2.out
              · exact HA.out j hj (by omega)
            case measure => simp [intOf]; omega
          · have hce := HCO.out hp
            have HE := hideB (HB1.out (fun h => hp (by simpa using h.2.2)))
            subst hce
            clear hp hcl
            go_wp2_with fail
            go_ret
            exact ⟨ret_strJ HE.out.symm, B1.out.trans (GB.out.mono (Nat.le_of_lt z1))⟩
    · have HE : Hid (r = ⟨(putL l (s.take k)).toArray⟩) := by
        unfold Hid
        rw [List.take_of_length_le (by have := HMS.out; omega)]
        exact HYES.out (fun x hx => by
          obtain ⟨j, hj, rfl⟩ := List.getElem_of_mem hx
          exact HA.out j hj (by have := HMS.out; omega))
      have HST := hideB (Sb.string_any w1.heap.size w1.heap.size _ wr HBU.out hbz)
      go_wp2_with fail
      refine HST.out.mono ?_
      rintro e w2 ⟨rfl, hb2⟩
      have B2 := hideB (GB.out.trans hb2)
      clear hb2
      go_wp2_with fail
      go_ret
      exact ⟨ret_strJ HE.out.symm, B1.out.trans (B2.out.mono (Nat.le_of_lt z1))⟩
set_option maxHeartbeats 1000000 in
theorem put_impl (l s : List Int) (a a' : Option Addr) (cap cap' : Nat) (w : World) (hl : Ints w w.heap.size a l) (hs : Ints w w.heap.size a' s) (hn : l.length ≤ 1048576) (hm : s.length ≤ 1048576) :
    Calls Tryz.prog 112 #[.slice a l.length cap, .slice a' s.length cap'] w fun e w' => e = .returned (.string (putR l s)) ∧ Below w.heap.size w w' := by
  by_cases h4 : 400 < s.length
  · have HE := hideB (putR_no (l := l) (Or.inl h4))
    generalize putR l s = r at HE ⊢
    clear hl hs
    generalize s.length = m at h4 hm ⊢
    generalize l.length = n at hn ⊢
    go_enter Tryz.func112, Tryz.ntmps112
    go_wp2_with fail
    go_ret
    exact ⟨ret_strJ HE.out.symm, Below.refl _ _⟩
  · cases hw : whole l with
    | true => exact put_yes l s a a' cap cap' w hl hs h4 hw
    | false =>
      have HE := hideB (putR_no (s := s) (Or.inr hw))
      have HW := hideB (whole_impl l a cap w.heap.size w hl hn)
      rw [hw] at HW
      have hd4 : decide ((400 : Int) < s.length) = false := decide_eq_false (by omega)
      generalize putR l s = r at HE ⊢
      clear hl hs hw
      generalize s.length = m at h4 hm hd4 ⊢
      generalize l.length = n at hn HW ⊢
      go_enter Tryz.func112, Tryz.ntmps112
      go_wp2_with fail
      refine HW.out.mono ?_
      rintro e w' ⟨rfl, hw⟩
      subst w'
      go_wp2_with fail
      go_ret
      exact ⟨ret_strJ HE.out.symm, Below.refl _ _⟩
end Go.Proofs.YtjdlgpnhkfdehaaGreatDoor.Bi


/- The walks of both BitsPack. -/
namespace Go.Proofs.YtjdlgpnhkfdehaaGreatDoor.Bi
open Go.RowKit
open Go.Proofs.YtjdlgpnhkfdehaaGreatDoor.Sh
open Go.Proofs.YtjdlgpnhkfdehaaGreatDoor.Nu (ret_strJ bv own_string app_below)
theorem byte_at (t : ByteArray) (j : Nat) (h : j < t.size) : ∃ y : UInt8, t[j] = y ∧ y.toNat = bt t j := ⟨t[j], rfl, bt_get t j h⟩
theorem all_more (t : ByteArray) (k : Nat) (h : ∀ j, j < k → bt t j = 48 ∨ bt t j = 49) (hk : bt t k = 48 ∨ bt t k = 49) : ∀ j, j < k + 1 → bt t j = 48 ∨ bt t j = 49 := by
  intro j hj
  by_cases e : j = k
  · rw [e]; exact hk
  · exact h j (by omega)
set_option maxHeartbeats 1000000 in
theorem good_impl (t : ByteArray) (w : World) (ht : t.size ≤ 1048576) :
    Calls Tryz.prog 162 #[.string t] w fun e w' => e = .returned (.bool (good t)) ∧ w' = w := by
  go_enter Tryz.func162, Tryz.ntmps162
  go_wp2_with fail
  go_loopw [6] (fun i wr => ∃ k : Nat, i = .int .i64 k ∧ k ≤ t.size ∧ (∀ j, j < k → bt t j = 48 ∨ bt t j = 49) ∧ wr = w) (fun i _ => t.size - (intOf i).toNat)
  case atStart => exact ⟨0, rfl, Nat.zero_le _, fun j hj => absurd hj (Nat.not_lt_zero j), rfl⟩
  case round =>
    obtain ⟨k, rfl, hk, hall, hw⟩ := hrel
    subst hw
    have HA := hideB hall
    clear hall
    by_cases hlt : k < t.size
    · obtain ⟨y, b0, hy⟩ := byte_at t k hlt
      have HY := hideB hy
      by_cases e8 : (y.toNat : Int) = 48
      · have n8 : ((y.toNat : Int) != 48) = false := by rw [e8]; rfl
        have HM : Hid (∀ j, j < k + 1 → bt t j = 48 ∨ bt t j = 49) := all_more t k HA.out (by rw [← HY.out]; omega)
        clear hy e8
        go_wp2_with fail
        go_roundw
        case rel => exact ⟨k + 1, by go_num, by omega, HM.out, trivial⟩
        case measure => simp [intOf]; omega
      · have n8 : ((y.toNat : Int) != 48) = true := by rw [bne_iff_ne]; exact e8
        by_cases e9 : (y.toNat : Int) = 49
        · have n9 : ((y.toNat : Int) != 49) = false := by rw [e9]; rfl
          have HM : Hid (∀ j, j < k + 1 → bt t j = 48 ∨ bt t j = 49) := all_more t k HA.out (by rw [← HY.out]; omega)
          clear hy e8 e9
          go_wp2_with fail
          go_roundw
          case rel => exact ⟨k + 1, by go_num, by omega, HM.out, trivial⟩
          case measure => simp [intOf]; omega
        · have n9 : ((y.toNat : Int) != 49) = true := by rw [bne_iff_ne]; exact e9
          have HN := hideB (good_not hlt (by rw [← HY.out]; omega) (by rw [← HY.out]; omega))
          clear hy e8 e9
          go_wp2_with fail
          go_ret
          exact ⟨ret_boolB HN.out.symm, rfl⟩
    · have HG := hideB (good_of (t := t) (fun j hj => HA.out j (by omega)))
      go_wp2_with fail
      go_ret
      exact ⟨ret_boolB HG.out.symm, rfl⟩
set_option maxHeartbeats 1000000 in
theorem good_spec (t : ByteArray) (w : World) (ht : t.size ≤ 1048576) :
    Calls Tryz.prog 177 #[.string t] w fun e w' => e = .returned (.bool (good t)) ∧ w' = w := by
  go_enter Tryz.func177, Tryz.ntmps177
  go_wp2_with fail
  go_loopw [3] (fun i wr => ∃ k : Nat, i = .int .i64 k ∧ k ≤ t.size ∧ (∀ j, j < k → bt t j = 48 ∨ bt t j = 49) ∧ wr = w) (fun i _ => t.size - (intOf i).toNat)
  case atStart => exact ⟨0, rfl, Nat.zero_le _, fun j hj => absurd hj (Nat.not_lt_zero j), rfl⟩
  case round =>
    obtain ⟨k, rfl, hk, hall, hw⟩ := hrel
    subst hw
    have HA := hideB hall
    clear hall
    by_cases hlt : k < t.size
    · obtain ⟨y, b0, hy⟩ := byte_at t k hlt
      have HY := hideB hy
      by_cases e8 : (y.toNat : Int) = 48
      · have n8 : ((y.toNat : Int) != 48) = false := by rw [e8]; rfl
        have HM : Hid (∀ j, j < k + 1 → bt t j = 48 ∨ bt t j = 49) := all_more t k HA.out (by rw [← HY.out]; omega)
        clear hy e8
        go_wp2_with fail
        go_roundw
        case rel => exact ⟨k + 1, by go_num, by omega, HM.out, trivial⟩
        case measure => simp [intOf]; omega
      · have n8 : ((y.toNat : Int) != 48) = true := by rw [bne_iff_ne]; exact e8
        by_cases e9 : (y.toNat : Int) = 49
        · have n9 : ((y.toNat : Int) != 49) = false := by rw [e9]; rfl
          have HM : Hid (∀ j, j < k + 1 → bt t j = 48 ∨ bt t j = 49) := all_more t k HA.out (by rw [← HY.out]; omega)
          clear hy e8 e9
          go_wp2_with fail
          go_roundw
          case rel => exact ⟨k + 1, by go_num, by omega, HM.out, trivial⟩
          case measure => simp [intOf]; omega
        · have n9 : ((y.toNat : Int) != 49) = true := by rw [bne_iff_ne]; exact e9
          have HN := hideB (good_not hlt (by rw [← HY.out]; omega) (by rw [← HY.out]; omega))
          clear hy e8 e9
          go_wp2_with fail
          go_ret
          exact ⟨ret_boolB HN.out.symm, rfl⟩
    · have HG := hideB (good_of (t := t) (fun j hj => HA.out j (by omega)))
      go_wp2_with fail
      go_ret
      exact ⟨ret_boolB HG.out.symm, rfl⟩
set_option maxRecDepth 100000 in
set_option maxHeartbeats 2000000 in
theorem pack_yes (t : ByteArray) (w : World) (ht : ¬ 8000 < t.size) (hg : good t = true) :
    Calls Tryz.prog 111 #[.string t] w fun e w' => e = .returned (.string (packV t)) ∧ Below w.heap.size w w' := by
  obtain ⟨i0, hi, hz0, hz1, hz2⟩ := info_parts Nu.Tryz.infoJ5
  obtain ⟨m, hm⟩ : ∃ m, m = (t.size + 7) / 8 := ⟨_, rfl⟩
  have hmi : ((t.size : Int) + 8 - 1) / 8 = (m : Int) := by omega
  have HMM := hideB hm
  have HMI := hideB hmi
  have hd8 : decide (8000 < (t.size : Int)) = false := decide_eq_false (by omega)
  clear hmi
  have HG := hideB (good_impl t w (by omega))
  rw [hg] at HG
  have HA := hideB (good_yes hg)
  clear hm hg
  have hm2 : m ≤ 1001 := by have := HMM.out; omega
  go_enter Tryz.func111, Tryz.ntmps111
  go_wp2_with fail
  refine HG.out.mono ?_
  rintro e w' ⟨rfl, hw⟩
  subst w'
  go_wp2_with (at_make; refine wpList_make_full _ rfl (.tmp 17) (.tmp 17) 22 rfl w.heap.size 5 i0 (.int .u8 0) 1 Tryz.underlying22 hi hz0 hz1 .i64 .i64 _ _ m rfl rfl HMI.out HMI.out (by rw [hz2]; omega) (by unfold maxLen; omega) (Nat.le_refl _) ?_; intro w1 hown1 hgrow1; have HR := hideB (made_row hown1); have HB := hideB ((Below.refl w.heap.size w).grown hgrow1 (Nat.le_refl _) (by simp)); clear hown1 hgrow1)
  go_loopw [21] (fun i wr => ∃ k : Nat, i = .int .i64 k ∧ k ≤ t.size ∧ IsB wr w.heap.size 5 .u8 m (fun j => (pkK t k j : Nat)) ∧ Below w.heap.size w wr) (fun i _ => t.size - (intOf i).toNat)
  case atStart => exact ⟨0, rfl, by omega, IsB.congr HR.out (fun j hj => by rw [pkK_zero]; rfl), HB.out⟩
  case round =>
    obtain ⟨k, rfl, hk, hr, hbel⟩ := hrel
    have HR2 := hideB hr
    by_cases hlt : k < t.size
    · obtain ⟨y, b0, hy⟩ := byte_at t k hlt
      have h01 := HA.out k hlt
      rw [← hy] at h01
      have HY := hideB hy
      clear hy
      by_cases e9 : (y.toNat : Int) = 49
      · have n9 : ((y.toNat : Int) == 49) = true := by rw [e9]; rfl
        have HO : Hid (one t k = 1) := by
          unfold Hid one
          rw [if_pos ⟨hlt, by rw [← HY.out]; omega⟩]
        obtain ⟨q, hq⟩ : ∃ q : Nat, q = k / 8 := ⟨_, rfl⟩
        obtain ⟨r, hrr⟩ : ∃ r : Nat, r = k % 8 := ⟨_, rfl⟩
        have hqi : (k : Int) / 8 = q := by omega
        have hri : (k : Int) % 8 = r := by omega
        have hqm : q < m := by have := HMM.out; omega
        have hr8 : r < 8 := by omega
        have ce := hr.cell (j := q) hqm
        have cf := hr.frozen q
        obtain ⟨s, hs⟩ : ∃ s : Nat, s = 7 - r := ⟨_, rfl⟩
        have hsi : (7 : Int) - r = s := by omega
        have HV : Hid (bits BinOp.or IntKind.u8 ((pkK t k q : Nat) : Int) ((2 : Int) ^ s) = ((pk t (k / 8) (k % 8) + 2 ^ (7 - k % 8) : Nat) : Int)) := by
          unfold Hid
          rw [hq, pkK_here, ← hrr, ← hs]
          have := pk_or t (k / 8) r hr8
          rw [← hs] at this
          rw [← this]
          simp
        have hpw : (2 : Int) ^ s < 256 := by
          have := Nat.pow_le_pow_right (n := 2) (by decide) (show s ≤ 7 by omega)
          have hcast : ((2 ^ s : Nat) : Int) = (2 : Int) ^ s := by simp
          omega
        have hpw0 : (0 : Int) < (2 : Int) ^ s := by
          have := Nat.pow_pos (n := s) (a := 2) (by decide)
          have hcast : ((2 ^ s : Nat) : Int) = (2 : Int) ^ s := by simp
          omega
        have HQ := hideB hq
        clear hr e9 h01 hq hrr hs
        generalize pkK t k q = pv at ce HV
        go_wp2_with fail
        go_region
        all_goals (try go_wp2_with fail)
        all_goals go_roundw
        case rel => exact ⟨k + 1, by go_num, by omega, IsB.congr (HR2.out.set q _) (fun j hj => by rw [HQ.out]; exact pkK_set t k j _ HO.out HV.out), Below.drew (hbel.setCell (Nat.le_refl _) _)⟩
        case measure => simp [intOf]; omega
      · have n9 : ((y.toNat : Int) == 49) = false := by rw [beq_eq_false_iff_ne]; exact e9
        have HO : Hid (one t k = 0) := by
          unfold Hid one
          rw [if_neg (by rw [← HY.out]; omega)]
        clear hr e9 h01
        go_wp2_with fail
        go_roundw
        case rel => exact ⟨k + 1, by go_num, by omega, IsB.congr HR2.out (fun j hj => pkK_skip t k j HO.out), hbel⟩
        case measure => simp [intOf]; omega
    · obtain rfl : k = t.size := by omega
      have hcv := hr.str (P := Tryz.prog) (src := 22) (dst := 9) m m (Nat.le_refl _) (fun j _ => pkK_lt t t.size j) Tryz.underlying22 Tryz.underlying5 Tryz.underlying9
      rw [HMM.out, pack_all, ← HMM.out] at hcv
      clear hr
      go_wp2_with fail
      go_ret
      exact ⟨rfl, hbel⟩
set_option maxHeartbeats 1000000 in
theorem pack_impl (t : ByteArray) (w : World) (ht : t.size ≤ 1048576) :
    Calls Tryz.prog 111 #[.string t] w fun e w' => e = .returned (.string (packR t)) ∧ Below w.heap.size w w' := by
  by_cases h : 8000 < t.size
  · have HE := hideB (packR_no t (Or.inl h))
    go_enter Tryz.func111, Tryz.ntmps111
    go_wp2_with fail
    go_ret
    exact ⟨ret_strJ HE.out.symm, Below.refl _ _⟩
  · cases hg : good t with
    | false =>
      have HE := hideB (packR_no t (Or.inr hg))
      have HG := hideB (good_impl t w (by omega))
      rw [hg] at HG
      go_enter Tryz.func111, Tryz.ntmps111
      go_wp2_with fail
      refine HG.out.mono ?_
      rintro e w' ⟨rfl, hw⟩
      subst w'
      go_wp2_with fail
      go_ret
      exact ⟨ret_strJ HE.out.symm, Below.refl _ _⟩
    | true =>
      rw [packR_yes t h hg]
      exact pack_yes t w h hg
end Go.Proofs.YtjdlgpnhkfdehaaGreatDoor.Bi


/- The walks of shortForm and impl.BlockPack. -/
namespace Go.Proofs.YtjdlgpnhkfdehaaGreatDoor.Pk
open Go.RowKit
open Go.Proofs.YtjdlgpnhkfdehaaGreatDoor.St (Strs IsS)
open Go.Proofs.YtjdlgpnhkfdehaaGreatDoor.In (Ints IsI OwnI)
open Go.Proofs.YtjdlgpnhkfdehaaGreatDoor.Hf (up up_length)
open Go.Proofs.YtjdlgpnhkfdehaaGreatDoor.Bi (above putR packR)
open Go.Proofs.YtjdlgpnhkfdehaaGreatDoor.So (bwtT bwtA bwtC sOut bwt_impl)
open Go.Proofs.YtjdlgpnhkfdehaaGreatDoor.Fr (frontR frontOf_impl frontR_len)
open Go.Proofs.YtjdlgpnhkfdehaaGreatDoor.Ze (zerosR zerosOf_impl)
open Go.Proofs.YtjdlgpnhkfdehaaGreatDoor.Se (sealV seal_impl)
theorem ints_keep {w w' : World} {a : Option Addr} {l : List Int} (h : Ints w w.heap.size a l) (hb : Below w.heap.size w w') : Ints w' w'.heap.size a l := (h.below hb).mono hb.size
theorem lt_blk {w : World} {g : Nat} {x : Obj} (h : w.heap[g]? = some x) : g < w.heap.size := (Array.getElem?_eq_some_iff.1 h).1
theorem blk_keep {w w' : World} {g : Nat} {x : Obj} (h : w.heap[g]? = some x) (hb : Below w.heap.size w w') : w'.heap[g]? = some x := (hb.block g (lt_blk h)).trans h
theorem low_keep {w0 w w' : World} (h : Below w0.heap.size w0 w) (hb : Below w.heap.size w w') : Below w0.heap.size w0 w' := h.trans (hb.mono h.size)
theorem ints_four {W : World} {g : Nat} {a b c d : Int} {t : TypeId} (h : W.heap[g]? = some (.cells #[.int .i64 a, .int .i64 b, .int .i64 c, .int .i64 d] t (0, 0))) : Ints W W.heap.size (some ⟨g, 0, none⟩) [a, b, c, d] :=
  .inr ⟨g, 0, rfl, lt_blk h, fun j hj => by
    rw [Nat.zero_add, cell_of_row W g j _ _ _ h]
    match j, hj with
    | 0, _ => rfl
    | 1, _ => rfl
    | 2, _ => rfl
    | 3, _ => rfl⟩
theorem strs_four {W : World} {g : Nat} {a b c d : ByteArray} {t : TypeId} (h : W.heap[g]? = some (.cells #[.string a, .string b, .string c, .string d] t (0, 0))) : Strs W W.heap.size (some ⟨g, 0, none⟩) [a, b, c, d] :=
  .inr ⟨g, 0, rfl, lt_blk h, fun j hj => by
    rw [Nat.zero_add, cell_of_row W g j _ _ _ h]
    match j, hj with
    | 0, _ => rfl
    | 1, _ => rfl
    | 2, _ => rfl
    | 3, _ => rfl⟩
theorem strs_two {W : World} {g : Nat} {a b : ByteArray} {t : TypeId} (h : W.heap[g]? = some (.cells #[.string a, .string b] t (0, 0))) : Strs W W.heap.size (some ⟨g, 0, none⟩) [a, b] :=
  .inr ⟨g, 0, rfl, lt_blk h, fun j hj => by
    rw [Nat.zero_add, cell_of_row W g j _ _ _ h]
    match j, hj with
    | 0, _ => rfl
    | 1, _ => rfl⟩
theorem cat_two (b : ByteArray) : cat [⟨#[0]⟩, b] = 0 :: b.data.toList := by
  unfold cat
  simp
theorem cat_short (b : ByteArray) : cat [⟨#[1]⟩, ⟨(numsL (headS b)).toArray⟩, ⟨(numsL (rowT (lenS b) 257)).toArray⟩, bitsS b] = shortL b := by
  unfold cat shortL
  simp
theorem packR_size (t : ByteArray) (h : t.size ≤ 4800) : (packR t).size ≤ 4800 := by
  unfold packR
  split
  · decide
  · unfold Bi.packV
    rw [Sh.strF_size]
    omega
theorem bitsS_size (b : ByteArray) : (bitsS b).size ≤ 4800 := packR_size _ (bits_size b)
theorem bwtA_le (b : ByteArray) (h : b.size ≤ 48) : bwtA b ≤ 48 := by
  unfold bwtA
  rw [if_pos h]
  exact Nat.le_trans (So.atK_le _ _) h
theorem headS_mem (b : ByteArray) (h : b.size ≤ 48) : ∀ x ∈ headS b, -9223372036854775808 ≤ x ∧ x ≤ 9223372036854775807 := by
  have h1 := bwtA_le b h
  have h2 := symS_len b
  have h3 := Bi.above_le (up (lenS b))
  rw [up_length, (lenS_facts b).1] at h3
  intro x hx
  unfold headS at hx
  simp only [List.mem_cons, List.not_mem_nil, or_false] at hx
  omega
theorem shortL_le (b : ByteArray) : (shortL b).length ≤ 20000 := by
  have h1 := numsL_le (headS b)
  have h2 := numsL_le (rowT (lenS b) 257)
  have h3 := rowT_length (lenS b) 257
  have h4 := bitsS_size b
  have h5 : (bitsS b).data.toList.length = (bitsS b).size := by simp
  have h6 : (headS b).length = 4 := rfl
  unfold shortL
  rw [List.length_append, List.length_append, List.length_append]
  simp only [List.length_cons, List.length_nil]
  omega
set_option maxRecDepth 100000 in
set_option maxHeartbeats 2000000 in
theorem short_impl (b : ByteArray) (w : World) (hb : b.size ≤ 48) :
    Calls Tryz.prog 57 #[.string b] w fun e w' => e = .returned (.string (shortV b)) ∧ Below w.heap.size w w' := by
  obtain ⟨hf1, hf2, _, _⟩ := lenS_facts b
  have HSM := hideP (symS_mem b)
  have hsl := symS_len b
  have C1 : Hid (∀ W, Calls Tryz.prog 105 #[.string b] W fun e w' => e = .returned (.agg #[.string (bwtT b), .int .i64 (bwtA b : Nat), .int .i64 (bwtC b : Nat)]) ∧ Below W.heap.size W w') := fun W => bwt_impl b W (by omega)
  have C2 : Hid (∀ W, Calls Tryz.prog 107 #[.string (bwtT b)] W fun e w' => ∃ v, e = .returned v ∧ OwnI w' W.heap.size v (frontR (bwtT b).data.toList) ∧ Below W.heap.size W w') := fun W => frontOf_impl (bwtT b) W (by
    have : (bwtT b).size ≤ 48 := by
      by_cases h : b.size ≤ 48
      · unfold bwtT
        rw [if_pos h, Sh.strF_size]
        exact h
      · omega
    omega)
  have C3 : Hid (∀ W base v, OwnI W base v (frontR (bwtT b).data.toList) → Calls Tryz.prog 106 #[v] W fun e w' => ∃ v, e = .returned v ∧ OwnI w' W.heap.size v (symS b) ∧ Below W.heap.size W w') := fun W base v h => by
    obtain ⟨x, c, rfl, _, hi⟩ := h.ints
    exact zerosOf_impl _ x c W.heap.size W hi (Nat.le_refl _) (by have := frontR_len (bwtT b).data.toList; omega)
  obtain ⟨n, hn⟩ : ∃ n, n = (symS b).length := ⟨_, rfl⟩
  have HN := hideP hn
  have C4 : Hid (∀ W x c, Ints W W.heap.size x (symS b) → Calls Tryz.prog 109 #[.slice x n c] W fun e w' => e = .returned (.slice (some ⟨W.heap.size, 0, none⟩) 257 257) ∧ Ints w' w'.heap.size (some ⟨W.heap.size, 0, none⟩) (up (countsN (symS b))) ∧ Below W.heap.size W w') := fun W x c h => by
    refine (counts_impl (symS b) x c n W h hn.symm (by omega) HSM.out).mono ?_
    rintro e w' ⟨rfl, hi, hb⟩
    exact ⟨rfl, hi.ints hi.lt, hb⟩
  have C5 : Hid (∀ W x c, Ints W W.heap.size x (up (countsN (symS b))) → Calls Tryz.prog 108 #[.slice x 257 c] W fun e w' => ∃ a c', e = .returned (.slice a 257 c') ∧ Ints w' w'.heap.size a (up (lenS b)) ∧ Below W.heap.size W w') := fun W x c h => by
    have := Hf.lengths_impl x c (up (countsN (symS b))) W h (by rw [up_length, countsN_length]; decide)
    rw [up_length, countsN_length, lens_counts] at this
    refine this.mono ?_
    rintro e w' ⟨v, rfl, ho, hb⟩
    obtain ⟨a, c', rfl, _, hi⟩ := ho.ints
    rw [up_length, hf1]
    exact ⟨a, c', rfl, hi, hb⟩
  have C6 : Hid (∀ W x c, Ints W W.heap.size x (up (lenS b)) → Calls Tryz.prog 110 #[.slice x 257 c] W fun e w' => e = .returned (.int .i64 (above (up (lenS b)) : Nat)) ∧ w' = W) := fun W x c h => by
    have := Bi.count_impl (up (lenS b)) x c W.heap.size W h (by rw [up_length, hf1]; decide)
    rw [up_length, hf1] at this
    exact this
  have C7 : Hid (∀ W x c y d, Ints W W.heap.size x (up (lenS b)) → Ints W W.heap.size y (symS b) → Calls Tryz.prog 112 #[.slice x 257 c, .slice y n d] W fun e w' => e = .returned (.string (putR (up (lenS b)) (symS b))) ∧ Below W.heap.size W w') := fun W x c y d h1 h2 => by
    have := Bi.put_impl (up (lenS b)) (symS b) x y c d W h1 h2 (by rw [up_length, hf1]; decide) (by omega)
    rw [up_length, hf1, ← hn] at this
    exact this
  have C8 : Hid (∀ W, Calls Tryz.prog 111 #[.string (putR (up (lenS b)) (symS b))] W fun e w' => e = .returned (.string (bitsS b)) ∧ Below W.heap.size W w') := fun W => Bi.pack_impl _ W (by have := bits_size b; omega)
  have C9 : Hid (∀ W g t, W.heap[g]? = some (.cells #[.int .i64 (b.size : Nat), .int .i64 (bwtA b : Nat), .int .i64 n, .int .i64 (above (up (lenS b)) : Nat)] t (0, 0)) → Calls Tryz.prog 76 #[.slice (some ⟨g, 0, none⟩) 4 4] W fun e w' => e = .returned (.string ⟨(numsL (headS b)).toArray⟩) ∧ Below W.heap.size W w') := fun W g t h => by
    have h' := ints_four h
    rw [hn] at h'
    exact nums_any (headS b) (some ⟨g, 0, none⟩) 4 4 W h' rfl (by decide) (headS_mem b hb)
  have C10 : Hid (∀ W x c, Ints W W.heap.size x (up (lenS b)) → Calls Tryz.prog 113 #[.slice x 257 c] W fun e w' => e = .returned (.string ⟨(numsL (rowT (lenS b) 257)).toArray⟩) ∧ Below W.heap.size W w') := fun W x c h => table_impl (lenS b) x c 257 W h hf1 (by decide) hf2
  have C11 : Hid (∀ W g t, W.heap[g]? = some (.cells #[.string ⟨#[1]⟩, .string ⟨(numsL (headS b)).toArray⟩, .string ⟨(numsL (rowT (lenS b) 257)).toArray⟩, .string (bitsS b)] t (0, 0)) → Calls Tryz.prog 56 #[.slice (some ⟨g, 0, none⟩) 4 4] W fun e w' => e = .returned (.string (shortV b)) ∧ Below W.heap.size W w') := fun W g t h => by
    have := join_any _ (some ⟨g, 0, none⟩) 4 4 W (strs_four h) rfl (by decide) (by rw [cat_short]; have := shortL_le b; omega)
    rw [cat_short] at this
    exact this
  rw [← hn] at hsl
  have hn' := hn
  clear hn hn' hf1 hf2 HSM
  generalize bwtC b = kC at C1
  generalize shortV b = R at C11 ⊢
  generalize (⟨(numsL (headS b)).toArray⟩ : ByteArray) = T1 at C9 C11
  generalize (⟨(numsL (rowT (lenS b) 257)).toArray⟩ : ByteArray) = T2 at C10 C11
  generalize bitsS b = T3 at C8 C11
  generalize putR (up (lenS b)) (symS b) = T0 at C7 C8
  generalize above (up (lenS b)) = kV at C6 C9
  generalize bwtA b = kA at C1 C9
  generalize bwtT b = kT at C1 C2 C3
  go_enter Tryz.func57, Tryz.ntmps57
  go_wp2_with fail
  refine (C1.out _).mono ?_
  rintro e w1 ⟨rfl, hb1⟩
  have B1 := hideP hb1
  clear hb1
  go_wp2_with fail
  have X2 : Hid ((w1.alloc (.cells #[.string kT, .int .i64 (kA : Nat), .int .i64 (kC : Nat)] 115)).heap[w1.heap.size]? = some (.cells #[.string kT, .int .i64 (kA : Nat), .int .i64 (kC : Nat)] 115 (0, 0))) := heap_alloc_new w1 _
  have B2 := hideP (B1.out.alloc B1.out.size (.cells #[.string kT, .int .i64 (kA : Nat), .int .i64 (kC : Nat)] 115))
  generalize w1.alloc (.cells #[.string kT, .int .i64 (kA : Nat), .int .i64 (kC : Nat)] 115) = w2 at X2 B2 ⊢
  generalize w1.heap.size = gx at X2 ⊢
  clear B1
  refine (C2.out _).mono ?_
  rintro e w3 ⟨v3, rfl, ho3, hb3⟩
  have X3 := hideP (blk_keep X2.out hb3)
  have B3 := hideP (low_keep B2.out hb3)
  have O3 := hideP ho3
  clear ho3 hb3 X2 B2
  go_wp2_with fail
  refine (C3.out _ _ _ O3.out).mono ?_
  rintro e w4 ⟨v4, rfl, ho4, hb4⟩
  have X4 := hideP (blk_keep X3.out hb4)
  have B4 := hideP (low_keep B3.out hb4)
  obtain ⟨ay, cy, hv4, _, hi4⟩ := ho4.ints
  rw [← HN.out] at hv4
  subst hv4
  have Y4 := hideP hi4
  clear ho4 hb4 X3 B3 O3 hi4
  go_wp2_with fail
  refine (C4.out _ _ _ Y4.out).mono ?_
  rintro e w5 ⟨rfl, hi5, hb5⟩
  have X5 := hideP (blk_keep X4.out hb5)
  have B5 := hideP (low_keep B4.out hb5)
  have Y5 := hideP (ints_keep Y4.out hb5)
  have Z5 := hideP hi5
  clear hi5 hb5 X4 B4 Y4
  go_wp2_with fail
  refine (C5.out _ _ _ Z5.out).mono ?_
  rintro e w6 ⟨az, cz, rfl, hi6, hb6⟩
  have X6 := hideP (blk_keep X5.out hb6)
  have B6 := hideP (low_keep B5.out hb6)
  have Y6 := hideP (ints_keep Y5.out hb6)
  have Z6 := hideP hi6
  clear hi6 hb6 X5 B5 Y5 Z5
  have K0 : Hid (Below w6.heap.size w6 w6.drew) := (Below.refl _ _).drew
  have CX : Hid (∀ W, Below w6.heap.size w6 W → W.cell? ⟨gx, 1, none⟩ = some (.int .i64 (kA : Nat))) := fun W h => cell_of_row W gx 1 _ _ _ (blk_keep X6.out h)
  go_upto_region 4 with fail
  go_cut [6] from 17 to 25 (fun s6 wx => ∃ g : Nat, s6 = .pointer (some ⟨g, 0, none⟩) ∧ wx.heap[g]? = some (.cells #[.int .i64 (b.size : Nat), .int .i64 (kA : Nat), .int .i64 n, .int .i64 (kV : Nat)] 120 (0, 0)) ∧ Below w6.heap.size w6 wx)
  case first =>
    have hS0 := CX.out _ K0.out
    have KA : Hid (∀ o, Below w6.heap.size w6 (w6.drew.alloc o)) := fun o => (Below.refl _ _).drew.alloc (Nat.le_refl _) o
    have KB : Hid (∀ o, Below w6.heap.size w6 (w6.alloc o).drew) := fun o => ((Below.refl _ _).alloc (Nat.le_refl _) o).drew
    go_region_held3 (fun W => W.cell? ⟨gx, 1, none⟩ = some (.int .i64 (kA : Nat))) (first | assumption | exact CX.out _ (KB.out _) | exact CX.out _ (KA.out _)) (first | (go_at_call 110; (with_reducible refine (C6.out _ _ _ ?_).mono ?_); (· first | exact ints_keep Z6.out K0.out | exact ints_keep Z6.out (KB.out _) | exact ints_keep Z6.out (KA.out _)); rintro e w7 ⟨rfl, hw7⟩; subst w7))
    all_goals (try go_wp2_with fail)
    all_goals (go_meet; exact ⟨w6.heap.size, rfl, heap_alloc_new w6 _, KB.out _⟩)
  case rest =>
    obtain ⟨g, rfl, hr, hbc⟩ := hcut
    have G0 := hideP hr
    have Y0 := hideP (ints_keep Y6.out hbc)
    have Z0 := hideP (ints_keep Z6.out hbc)
    have B0 := hideP (low_keep B6.out hbc)
    clear hr hbc CX X6 Y6 Z6 B6 K0
    go_wp2_with fail
    refine (C7.out _ _ _ _ _ Z0.out Y0.out).mono ?_
    rintro e w8 ⟨rfl, hb8⟩
    have G8 := hideP (blk_keep G0.out hb8)
    have Z8 := hideP (ints_keep Z0.out hb8)
    have B8 := hideP (low_keep B0.out hb8)
    clear hb8 G0 Y0 Z0 B0
    go_wp2_with fail
    refine (C8.out _).mono ?_
    rintro e w9 ⟨rfl, hb9⟩
    have G9 := hideP (blk_keep G8.out hb9)
    have Z9 := hideP (ints_keep Z8.out hb9)
    have B9 := hideP (low_keep B8.out hb9)
    clear hb9 G8 Z8 B8
    go_wp2_with fail
    refine (C9.out _ _ _ G9.out).mono ?_
    rintro e w10 ⟨rfl, hb10⟩
    have Z10 := hideP (ints_keep Z9.out hb10)
    have B10 := hideP (low_keep B9.out hb10)
    clear hb10 G9 Z9 B9
    go_wp2_with fail
    refine (C10.out _ _ _ Z10.out).mono ?_
    rintro e w11 ⟨rfl, hb11⟩
    have B11 := hideP (low_keep B10.out hb11)
    clear hb11 Z10 B10
    go_wp2_with fail
    have H12 : Hid ((w11.alloc (.cells #[.string ⟨#[1]⟩, .string T1, .string T2, .string T3] 9)).heap[w11.heap.size]? = some (.cells #[.string ⟨#[1]⟩, .string T1, .string T2, .string T3] 9 (0, 0))) := heap_alloc_new w11 _
    have B12 := hideP (B11.out.alloc B11.out.size (.cells #[.string ⟨#[1]⟩, .string T1, .string T2, .string T3] 9))
    refine (C11.out _ _ _ H12.out).mono ?_
    rintro e w13 ⟨rfl, hb13⟩
    have B13 := hideP (low_keep B12.out hb13)
    clear hb13
    go_wp2_with fail
    go_ret
    exact ⟨rfl, B13.out⟩
set_option maxRecDepth 100000 in
set_option maxHeartbeats 1000000 in
theorem pack_impl (b : ByteArray) (w : World) (hb : b.size ≤ 1048576) :
    Calls Tryz.prog 10 #[.string b] w fun e w' => e = .returned (.string (packB b)) ∧ Below w.heap.size w w' := by
  by_cases h48 : 48 < b.size
  · have HR : Hid (packB b = ⟨#[]⟩) := if_pos h48
    have h48' : (48 : Int) < (b.size : Int) := by omega
    rw [HR.out]
    go_enter Tryz.func10, Tryz.ntmps10
    go_wp2_with fail
    go_ret
    exact ⟨rfl, Below.refl _ _⟩
  · have HR : Hid (packB b = sealV (innerV b)) := if_neg h48
    have h48' : decide ((48 : Int) < (b.size : Int)) = false := by simp; omega
    have HS := hideP (fun W => short_impl b W (by omega))
    have HP : Hid (∀ W g t, W.heap[g]? = some (.cells #[.string ⟨#[0]⟩, .string b] t (0, 0)) → Calls Tryz.prog 56 #[.slice (some ⟨g, 0, none⟩) 2 2] W fun e w' => e = .returned (.string (plainV b)) ∧ Below W.heap.size W w') := fun W g t h => by
      have := join_any _ (some ⟨g, 0, none⟩) 2 2 W (strs_two h) rfl (by decide) (by rw [cat_two]; simp; omega)
      rw [cat_two] at this
      exact this
    have hps := plainV_size b
    have hss : (shortV b).size ≤ 20000 := by
      have := shortL_le b
      show (shortL b).toArray.size ≤ 20000
      rw [List.size_toArray]
      exact this
    have HSE := hideP (fun (t : ByteArray) (W : World) (h : t.size ≤ 20000) => seal_impl t W (by unfold maxLen; omega))
    have HIN : Hid (innerV b = if (shortV b).size < (plainV b).size then shortV b else plainV b) := by
      unfold Hid innerV
      rw [hps]
    rw [HR.out, HIN.out]
    clear HR HIN
    generalize shortV b = S at HS hss ⊢
    generalize plainV b = P at HP hps ⊢
    have hpz : P.size ≤ 49 := by omega
    clear hps
    by_cases hlt : S.size < P.size
    · have hlt' : (S.size : Int) < (P.size : Int) := by omega
      rw [if_pos hlt]
      have HSE1 := hideP (fun W => HSE.out S W hss)
      generalize sealV S = R at HSE1 ⊢
      go_enter Tryz.func10, Tryz.ntmps10
      go_wp2_with fail
      have H1 : Hid ((w.alloc (.cells #[.string ⟨#[0]⟩, .string b] 9)).heap[w.heap.size]? = some (.cells #[.string ⟨#[0]⟩, .string b] 9 (0, 0))) := heap_alloc_new w _
      have B1 := hideP ((Below.refl w.heap.size w).alloc (Nat.le_refl _) (.cells #[.string ⟨#[0]⟩, .string b] 9))
      refine (HP.out _ _ _ H1.out).mono ?_
      rintro e w2 ⟨rfl, hb2⟩
      have B2 := hideP (low_keep B1.out hb2)
      clear hb2 H1 B1
      go_wp2_with fail
      refine (HS.out _).mono ?_
      rintro e w3 ⟨rfl, hb3⟩
      have B3 := hideP (low_keep B2.out hb3)
      clear hb3 B2
      go_wp2_with fail
      refine (HSE1.out _).mono ?_
      rintro e w4 ⟨rfl, hb4⟩
      have B4 := hideP (low_keep B3.out hb4)
      clear hb4
      go_wp2_with fail
      go_ret
      exact ⟨rfl, B4.out⟩
    · have hlt' : decide ((S.size : Int) < (P.size : Int)) = false := by simp; omega
      rw [if_neg hlt]
      have HSE1 := hideP (fun W => HSE.out P W (by omega))
      generalize sealV P = R at HSE1 ⊢
      go_enter Tryz.func10, Tryz.ntmps10
      go_wp2_with fail
      have H1 : Hid ((w.alloc (.cells #[.string ⟨#[0]⟩, .string b] 9)).heap[w.heap.size]? = some (.cells #[.string ⟨#[0]⟩, .string b] 9 (0, 0))) := heap_alloc_new w _
      have B1 := hideP ((Below.refl w.heap.size w).alloc (Nat.le_refl _) (.cells #[.string ⟨#[0]⟩, .string b] 9))
      refine (HP.out _ _ _ H1.out).mono ?_
      rintro e w2 ⟨rfl, hb2⟩
      have B2 := hideP (low_keep B1.out hb2)
      clear hb2 H1 B1
      go_wp2_with fail
      refine (HS.out _).mono ?_
      rintro e w3 ⟨rfl, hb3⟩
      have B3 := hideP (low_keep B2.out hb3)
      clear hb3 B2
      go_wp2_with fail
      refine (HSE1.out _).mono ?_
      rintro e w4 ⟨rfl, hb4⟩
      have B4 := hideP (low_keep B3.out hb4)
      clear hb4
      go_wp2_with fail
      go_ret
      exact ⟨rfl, B4.out⟩
end Go.Proofs.YtjdlgpnhkfdehaaGreatDoor.Pk


/- The walk of impl.PiecesOf. -/
namespace Go.Proofs.YtjdlgpnhkfdehaaGreatDoor.Pk
open Go.RowKit
open Go.Proofs.YtjdlgpnhkfdehaaGreatDoor.St (OwnS IsS Strs made_strs srow)
open Go.Proofs.YtjdlgpnhkfdehaaGreatDoor.Bk (blocksR blocksR_length blocks_impl blks blks_length cnt)
noncomputable def piecesR (s : ByteArray) (size : Int) : List ByteArray := (blocksR s size).map packB
theorem piecesR_length (s : ByteArray) (size : Int) : (piecesR s size).length ≤ 64 := by
  unfold piecesR
  rw [List.length_map]
  exact blocksR_length s size
noncomputable def midP (l : List ByteArray) (k : Nat) : List ByteArray := (l.take k).map packB ++ List.replicate (l.length - k) ⟨#[]⟩
theorem midP_length (l : List ByteArray) (k : Nat) (h : k ≤ l.length) : (midP l k).length = l.length := by
  unfold midP
  rw [List.length_append, List.length_map, List.length_take, List.length_replicate]
  omega
theorem midP_next (l : List ByteArray) (k : Nat) (h : k < l.length) : (midP l k).set k (packB l[k]) = midP l (k + 1) := by
  have hl : ((l.take k).map packB).length = k := by rw [List.length_map, List.length_take]; omega
  unfold midP
  rw [List.set_append, if_neg (by omega), hl, Nat.sub_self, show l.length - k = (l.length - (k + 1)) + 1 by omega, List.replicate_succ, List.set_cons_zero, List.take_add_one, List.getElem?_eq_getElem h, List.map_append, List.append_assoc]
  rfl
theorem midP_zero (l : List ByteArray) : midP l 0 = List.replicate l.length ⟨#[]⟩ := by
  unfold midP
  simp
theorem midP_all (l : List ByteArray) : midP l l.length = l.map packB := by
  unfold midP
  rw [List.take_length, Nat.sub_self, List.replicate_zero, List.append_nil]
theorem owns_of {W : World} {g base n : Nat} {l : List ByteArray} (h : IsS W g 9 l) (hg : base ≤ g) (hn : l.length = n) (hm : n ≤ 1048576) : OwnS W base (.slice (some ⟨g, 0, none⟩) n n) l := by
  subst hn
  refine ⟨by simp, .inr ⟨g, l.length, srow l, rfl, hg, h, Nat.le_refl _, by unfold maxLen; omega, by simp [srow], ?_⟩⟩
  unfold srow
  rw [List.take_of_length_le (by simp)]
theorem strs_some {w : World} {B : Nat} {a : Option Addr} {l : List ByteArray} (h : Strs w B a l) (h0 : 0 < l.length) : ∃ b off, a = some ⟨b, off, none⟩ ∧ b < B ∧ ∀ j (h : j < l.length), w.cell? ⟨b, off + j, none⟩ = some (.string l[j]) := by
  rcases h with h | h
  · subst h
    simp at h0
  · exact h
theorem blks_size (s : ByteArray) (k : Nat) : ∀ n, ∀ x ∈ blks s k n, x.size ≤ k
  | 0, x, h => absurd h (List.not_mem_nil)
  | n + 1, x, h => by
    rw [blks] at h
    rcases List.mem_append.1 h with h | h
    · exact blks_size s k n x h
    · rw [List.mem_singleton.1 h, ByteArray.size_extract]
      omega
theorem blocks_size (s : ByteArray) (size : Int) : ∀ x ∈ blocksR s size, x.size ≤ 48 := by
  intro x hx
  unfold blocksR at hx
  split at hx
  · rename_i h
    have h := of_decide_eq_true h
    have := blks_size s size.toNat _ x hx
    omega
  · exact absurd hx (List.not_mem_nil)
set_option maxRecDepth 100000 in
set_option maxHeartbeats 1000000 in
theorem pieces_impl (s : ByteArray) (size : Int) (w : World) (hs : s.size ≤ 1048576) :
    Calls Tryz.prog 20 #[.string s, .int .i64 size] w fun e w' => ∃ v, e = .returned v ∧ OwnS w' w.heap.size v (piecesR s size) ∧ Below w.heap.size w w' := by
  obtain ⟨i0, hi0, hz0, hz1, hz2⟩ := info_parts St.Tryz.infoS9
  have HB := hideP (blocks_impl s size w hs)
  have HL := blocksR_length s size
  have HSZ := hideP (blocks_size s size)
  have HR : Hid (piecesR s size = (blocksR s size).map packB) := rfl
  rw [HR.out]
  clear HR
  generalize blocksR s size = l at HB HL HSZ ⊢
  go_enter Tryz.func20, Tryz.ntmps20
  go_wp2_with fail
  refine HB.out.mono ?_
  rintro e w1 ⟨v1, rfl, ho1, hb1⟩
  obtain ⟨a, cap, hv, _, hi1⟩ := ho1.strs
  obtain ⟨n, hn⟩ : ∃ n, n = l.length := ⟨_, rfl⟩
  rw [← hn] at hv HL
  subst hv
  have HN := hideP hn
  have S1 := hideP hi1
  have B1 := hideP hb1
  have hz1' := hb1.size
  clear hn hi1 hb1 ho1
  go_wp2_with (at_make; refine wpList_make_full _ rfl (.tmp 13) (.tmp 13) 30 rfl w1.heap.size 9 i0 (.string ⟨#[]⟩) 1 Tryz.underlying30 hi0 hz0 hz1 .i64 .i64 _ _ n rfl rfl (by simp) (by simp) (by rw [hz2]; omega) (by unfold maxLen; omega) (Nat.le_refl _) ?_; intro w2 hown hgrow; have HI2 := hideP (made_strs hown); have HB2 := hideP ((Below.refl w1.heap.size w1).grown hgrow (Nat.le_refl _) (by simp)); clear hown hgrow)
  go_loopw [17, 7, 8] (fun iv _ _ wr => ∃ k : Nat, iv = .int .i64 k ∧ k ≤ n ∧ IsS wr w1.heap.size 9 (midP l k) ∧ Below w1.heap.size w1 wr) (fun iv _ _ _ => n - (intOf iv).toNat)
  case atStart => exact ⟨0, rfl, Nat.zero_le _, by rw [midP_zero, ← HN.out]; exact HI2.out, HB2.out⟩
  case round =>
    obtain ⟨k, rfl, hk, hsr, hbw⟩ := hrel
    have SR := hideP hsr
    have BW := hideP hbw
    have hzr := hbw.size
    clear hsr hbw
    by_cases hlt : k < n
    · have hkl : k < l.length := by rw [← HN.out]; exact hlt
      obtain ⟨b, off, rfl, hb, hcl⟩ := strs_some (S1.out.below BW.out) (by omega)
      have ci := hcl k hkl
      have HNX := hideP (midP_next l k hkl)
      have hx := HSZ.out l[k] (List.getElem_mem hkl)
      have hpl : k < (midP l k).length := by rw [midP_length l k (by omega)]; exact hkl
      have HOLD := hideP (fun (W : World) (hW : IsS W w1.heap.size 9 (midP l k)) => hW.cell hpl)
      generalize l[k] = x at ci HNX hx
      generalize (midP l k)[k] = old at HOLD
      have hkn : (k : Int) < n := by omega
      have HP := hideP (fun W => pack_impl x W (by omega))
      generalize packB x = px at HP HNX
      clear hcl hkl hpl
      go_wp2_with fail
      refine (HP.out _).mono ?_
      rintro e w3 ⟨rfl, hb3⟩
      have S3 := hideP (SR.out.below hb3 SR.out.lt)
      have B3 := hideP (BW.out.trans (hb3.mono hzr))
      have c3 := HOLD.out w3 S3.out
      have f3 := S3.out.frozen k
      clear hb3
      go_wp2_with fail
      go_roundw
      case rel => exact ⟨k + 1, by go_num, by omega, by rw [← HNX.out]; exact S3.out.set k _, B3.out.setCell (by simp) _⟩
      case measure => simp [intOf]; omega
    · obtain rfl : k = n := by omega
      have HE : Hid (IsS wr w1.heap.size 9 (l.map packB)) := by
        have := SR.out
        rw [HN.out, midP_all] at this
        exact this
      go_wp2_with fail
      go_ret
      exact ⟨_, rfl, owns_of HE.out hz1' (by rw [List.length_map]; exact HN.out.symm) (by omega), B1.out.trans (BW.out.mono hz1')⟩
end Go.Proofs.YtjdlgpnhkfdehaaGreatDoor.Pk

