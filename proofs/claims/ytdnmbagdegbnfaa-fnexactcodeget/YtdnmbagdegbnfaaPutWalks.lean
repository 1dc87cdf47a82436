/- The walks of both CodePut. -/
import Derived.Test.YtdnmbagdegbnfaaPutPlain
import Derived.Test.YtdnmbagdegbnfaaCodesTop
import Derived.Test.YtdnmbagdegbnfaaBuilder
namespace Go.Proofs.Ytdnmbagdegbnfaa.Bi
open Go.RowKit
open Go.Proofs.Ytdnmbagdegbnfaa.In (Ints)
open Go.Proofs.Ytdnmbagdegbnfaa.St (IsS)
open Go.Proofs.Ytdnmbagdegbnfaa.Nu (ret_strJ own_string bv)

theorem getD_get {l : List Int} {i : Nat} (hi : i < l.length) : l.getD i 0 = l[i] := by rw [List.getD_eq_getElem?_getD, List.getElem?_eq_getElem hi]; rfl
theorem nonempty (s : ByteArray) (h : 1 ≤ s.size) : s.toList.isEmpty = false := by
  rw [ByteArray.toList_eq]
  cases hd : s.data.toList with
  | nil => exfalso; have := congrArg List.length hd; rw [Array.length_toList] at this; exact absurd (show s.size = 0 from this) (by omega)
  | cons _ _ => rfl
theorem okS_nat {l : List Int} {i : Nat} (h : i < l.length) (h0 : 0 < l.getD i 0) : okS l (i : Int) := ⟨by omega, by omega, by simpa using h0⟩

set_option maxRecDepth 100000 in
set_option maxHeartbeats 4000000 in
theorem put_yes (l s : List Int) (a a' : Option Addr) (cap cap' : Nat) (w : World) (hl : Ints w w.heap.size a l) (hs : Ints w w.heap.size a' s) (hm : ¬ 400 < s.length) (hw : whole l = true) :
    Calls Try.prog 24 #[.slice a l.length cap, .slice a' s.length cap'] w fun e w' => e = .returned (.string (putR l s)) ∧ Below w.heap.size w w' := by
  have HW := hideB (whole_impl l a cap w.heap.size w hl (by have := whole_len hw; omega))
  rw [hw] at HW
  have HC := hideB (codes_yes l a cap w.heap.size w hl (Nat.le_refl _) (whole_right hw))
  have HS := hideB hs
  have HK := hideB (whole_ok hw)
  have HWW := hideB hw
  have hn := whole_len hw
  have HCL := hideB (codesV_length l)
  have HYES := hideB (fun (h : ∀ x ∈ s, okS l x) => putR_yes hm hw h)
  have HBAD := hideB (fun (j : Nat) (hj : j < s.length) (h : ¬ okS l s[j]) => putR_bad hj h)
  clear hl hs hw
  obtain ⟨n, hln⟩ : ∃ n, n = l.length := ⟨_, rfl⟩
  obtain ⟨m, hms⟩ : ∃ m, m = s.length := ⟨_, rfl⟩
  obtain ⟨r, hr⟩ : ∃ r, r = putR l s := ⟨_, rfl⟩
  have HLN := hideB hln
  have HMS := hideB hms
  rw [← hr] at HYES HBAD ⊢
  rw [← hln] at hn HW HC HCL ⊢
  rw [← hms] at hm ⊢
  clear hln hms hr
  have hd4 : decide ((400 : Int) < m) = false := decide_eq_false (by omega)
  go_enter Try.func24, Try.ntmps24
  go_wp2_with fail
  refine HW.out.mono ?_
  rintro e w' ⟨rfl, hw⟩
  subst w'
  go_wp2_with fail
  refine HC.out.mono ?_
  rintro e w1 ⟨rfl, hi1, hb1⟩
  have X1 := hideB hi1
  have B1 := hideB hb1
  have z1 : w.heap.size < w1.heap.size := hi1.lt
  clear hi1 hb1
  go_wp2_with fail
  go_loopw [21] (fun i wr => ∃ k : Nat, i = .int .i64 k ∧ k ≤ m ∧ (∀ j (hj : j < s.length), j < k → okS l s[j]) ∧ Lib.IsBuilder 74 5 w1.heap.size w1.heap.size (Lib.byteCells (putL l (s.take k))) wr ∧ Below w1.heap.size w1 wr ∧ w1.heap.size ≤ wr.heap.size) (fun i _ => m - (intOf i).toNat)
  case atStart => exact ⟨0, rfl, Nat.zero_le _, fun j hj h0 => absurd h0 (Nat.not_lt_zero j), Lib.fresh_isBuilder _ _ w1, (Below.refl _ _).alloc (Nat.le_refl _) _, by simp⟩
  case round =>
    obtain ⟨k, rfl, hk, hall, hbu, hbel, hbz⟩ := hrel
    have HA := hideB hall
    have HBU := hideB hbu
    have GB := hideB hbel
    clear hall hbu hbel
    by_cases hlt : k < m
    · have hkl : k < s.length := by rw [← HMS.out]; exact hlt
      obtain ⟨b, off, rfl, hb, hc⟩ := (HS.out.below (B1.out.trans (GB.out.mono (Nat.le_of_lt z1)))).some (by omega)
      have ci := hc k hkl
      have HM := hideB (putL_more (l := l) hkl)
      have HB1 := hideB (HBAD.out k hkl)
      obtain ⟨x, hx⟩ : ∃ x, x = s[k] := ⟨_, rfl⟩
      have HX := hideB hx
      rw [← hx] at ci HM HB1
      clear hc hx
      by_cases h0 : x < 0
      · have HE := hideB (HB1.out (fun h => by have := h.1; omega))
        go_wp2_with fail
        go_ret
        exact ⟨ret_strJ HE.out.symm, B1.out.trans (GB.out.mono (Nat.le_of_lt z1))⟩
      · have hd0 : decide (x < 0) = false := decide_eq_false h0
        obtain ⟨i, rfl⟩ : ∃ i : Nat, x = i := ⟨x.toNat, by omega⟩
        by_cases h1 : n ≤ i
        · have HE := hideB (HB1.out (fun h => by have := h.2.1; have := HLN.out; omega))
          have hge : (n : Int) ≤ i := by omega
          go_wp2_with fail
          go_ret
          exact ⟨ret_strJ HE.out.symm, B1.out.trans (GB.out.mono (Nat.le_of_lt z1))⟩
        · have hd1 : decide ((n : Int) ≤ i) = false := decide_eq_false (by omega)
          have hil : i < l.length := by rw [← HLN.out]; omega
          have hin : i < n := by omega
          have hiv : i < (codesV l).length := by rw [HCL.out]; omega
          have cc := (X1.out.below GB.out z1).cell hiv
          rw [codes_get l HK.out i hiv] at cc
          have HCO := hideB (codeOf_none l i)
          have HOK := hideB (okS_nat hil)
          have hcl := codeOf_le l HK.out i
          obtain ⟨c, hcc⟩ : ∃ c, c = codeOf l i := ⟨_, rfl⟩
          have HCC := hideB hcc
          rw [← hcc] at cc HCO hcl
          clear hcc
          by_cases hp : 0 < l.getD i 0
          · have hne : c.toList.isEmpty = false := nonempty c (by rw [HCC.out, codeOf_size]; omega)
            have HOK2 := hideB (HOK.out hp)
            have HLE : Hid ((Lib.byteCells (putL l (s.take k))).length + c.size ≤ 140737488355328) := by
              unfold Hid
              have h1 := putL_le l HK.out (s.take k)
              rw [List.length_take] at h1
              rw [Lib.byteCells_length]
              omega
            have HNX : Hid (Lib.byteCells (putL l (s.take k)) ++ Lib.strCells c = Lib.byteCells (putL l (s.take (k + 1)))) := by
              unfold Hid
              rw [HM.out, Lib.byteCells_append, Lib.strCells_eq, HCC.out]
              rfl
            have HWR := hideB (Sb.write_any w1.heap.size w1.heap.size _ c wr HBU.out HLE.out hbz)
            clear hp hcl
            go_wp2_with fail
            refine HWR.out.mono ?_
            rintro e w2 ⟨rfl, hbt, hb2⟩
            rw [HNX.out] at hbt
            have HBT := hideB hbt
            have B2 := hideB (GB.out.trans hb2)
            have z2 := hb2.size
            clear hbt hb2
            go_wp2_with fail
            go_roundw
            case rel =>
              refine ⟨k + 1, by go_num, by omega, fun j hj hjk => ?_, Or.inr HBT.out, B2.out, by omega⟩
              by_cases e : j = k
              · subst e
                rw [← HX.out]
                exact HOK2.out
              · exact HA.out j hj (by omega)
            case measure => simp [intOf]; omega
          · have hce := HCO.out hp
            have HE := hideB (HB1.out (fun h => hp (by simpa using h.2.2)))
            subst hce
            clear hp hcl
            go_wp2_with fail
            go_ret
            exact ⟨ret_strJ HE.out.symm, B1.out.trans (GB.out.mono (Nat.le_of_lt z1))⟩
    · have HE : Hid (r = ⟨(putL l (s.take k)).toArray⟩) := by
        unfold Hid
        rw [List.take_of_length_le (by have := HMS.out; omega)]
        exact HYES.out (fun x hx => by
          obtain ⟨j, hj, rfl⟩ := List.getElem_of_mem hx
          exact HA.out j hj (by have := HMS.out; omega))
      have HST := hideB (Sb.string_any w1.heap.size w1.heap.size _ wr HBU.out hbz)
      go_wp2_with fail
      refine HST.out.mono ?_
      rintro e w2 ⟨rfl, hb2⟩
      have B2 := hideB (GB.out.trans hb2)
      clear hb2
      go_wp2_with fail
      go_ret
      exact ⟨ret_strJ HE.out.symm, B1.out.trans (B2.out.mono (Nat.le_of_lt z1))⟩

set_option maxHeartbeats 1000000 in
theorem put_impl (l s : List Int) (a a' : Option Addr) (cap cap' : Nat) (w : World) (hl : Ints w w.heap.size a l) (hs : Ints w w.heap.size a' s) (hn : l.length ≤ 1048576) (hm : s.length ≤ 1048576) :
    Calls Try.prog 24 #[.slice a l.length cap, .slice a' s.length cap'] w fun e w' => e = .returned (.string (putR l s)) ∧ Below w.heap.size w w' := by
  by_cases h4 : 400 < s.length
  · have HE := hideB (putR_no (l := l) (Or.inl h4))
    generalize putR l s = r at HE ⊢
    clear hl hs
    generalize s.length = m at h4 hm ⊢
    generalize l.length = n at hn ⊢
    go_enter Try.func24, Try.ntmps24
    go_wp2_with fail
    go_ret
    exact ⟨ret_strJ HE.out.symm, Below.refl _ _⟩
  · cases hw : whole l with
    | true => exact put_yes l s a a' cap cap' w hl hs h4 hw
    | false =>
      have HE := hideB (putR_no (s := s) (Or.inr hw))
      have HW := hideB (whole_impl l a cap w.heap.size w hl hn)
      rw [hw] at HW
      have hd4 : decide ((400 : Int) < s.length) = false := decide_eq_false (by omega)
      generalize putR l s = r at HE ⊢
      clear hl hs hw
      generalize s.length = m at h4 hm hd4 ⊢
      generalize l.length = n at hn HW ⊢
      go_enter Try.func24, Try.ntmps24
      go_wp2_with fail
      refine HW.out.mono ?_
      rintro e w' ⟨rfl, hw⟩
      subst w'
      go_wp2_with fail
      go_ret
      exact ⟨ret_strJ HE.out.symm, Below.refl _ _⟩
end Go.Proofs.Ytdnmbagdegbnfaa.Bi
