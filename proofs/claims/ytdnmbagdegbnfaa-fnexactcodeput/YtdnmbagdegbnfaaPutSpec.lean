/- The walks of the specification's CodePut, and of the law. -/
import Derived.Test.YtdnmbagdegbnfaaPutWalks
namespace Go.Proofs.Ytdnmbagdegbnfaa.Bi
open Go.RowKit
open Go.Proofs.Ytdnmbagdegbnfaa.In (Ints)
open Go.Proofs.Ytdnmbagdegbnfaa.St (IsS)
open Go.Proofs.Ytdnmbagdegbnfaa.Nu (ret_strJ own_string bv)

theorem own_lenB {w : World} {B m n : Nat} {e : TypeId} {v : Value} {xs : List Value} (h : w.ownsRow B e 1 v m xs) (hm : m = n) : w.ownsRow B e 1 v n xs := by rw [← hm]; exact h

set_option maxRecDepth 100000 in
set_option maxHeartbeats 4000000 in
theorem l04Put_any (l s : List Int) (a a' : Option Addr) (cap cap' : Nat) (w : World) (hl : Ints w w.heap.size a l) (hs : Ints w w.heap.size a' s) (hm : ¬ 400 < s.length) (hw : whole l = true) (hok : ∀ x ∈ s, okS l x) :
    Calls Try.prog 106 #[.slice a l.length cap, .slice a' s.length cap'] w fun e w' => e = .returned (.string ⟨(putL l s).toArray⟩) ∧ Below w.heap.size w w' := by
  obtain ⟨i0, hi0, hz0, hz1, hz2⟩ := info_parts Sb.builderX.infoByte
  have HC := hideB (codes_spec l a cap w.heap.size w hl (Nat.le_refl _) (whole_right hw))
  have HS := hideB hs
  have HK := hideB (whole_ok hw)
  have hn := whole_len hw
  have HCL := hideB (codesV_length l)
  have HOK := hideB (fun (j : Nat) (hj : j < s.length) => hok _ (List.getElem_mem hj))
  clear hl hs hw hok
  obtain ⟨n, hln⟩ : ∃ n, n = l.length := ⟨_, rfl⟩
  obtain ⟨m, hms⟩ : ∃ m, m = s.length := ⟨_, rfl⟩
  have HLN := hideB hln
  have HMS := hideB hms
  rw [← hln] at hn HC HCL ⊢
  rw [← hms] at hm ⊢
  clear hln hms
  go_enter Try.func106, Try.ntmps106
  go_wp2_with fail
  refine HC.out.mono ?_
  rintro e w1 ⟨rfl, hi1, hb1⟩
  have X1 := hideB hi1
  have B1 := hideB hb1
  have z1 : w.heap.size < w1.heap.size := hi1.lt
  clear hi1 hb1
  go_wp2_with fail
  go_loopw [7, 6] (fun i v wr => ∃ k : Nat, i = .int .i64 k ∧ k ≤ m ∧ wr.ownsRow w1.heap.size 5 1 v (putL l (s.take k)).length (Lib.byteCells (putL l (s.take k))) ∧ Below w1.heap.size w1 wr) (fun i _ _ => m - (intOf i).toNat)
  case atStart => exact ⟨0, rfl, Nat.zero_le _, World.ownsRow_made _ _ _ (Nat.le_refl _) (by decide) rfl, (Below.refl _ _).alloc (Nat.le_refl _) _⟩
  case round =>
    obtain ⟨k, rfl, hk, hown, hbel⟩ := hrel
    have HO := hideB hown
    have GB := hideB hbel
    have hbz := hbel.size
    clear hown hbel
    by_cases hlt : k < m
    · have hkl : k < s.length := by rw [← HMS.out]; exact hlt
      obtain ⟨b, off, rfl, hb, hc⟩ := (HS.out.below (B1.out.trans (GB.out.mono (Nat.le_of_lt z1)))).some (by omega)
      have ci := hc k hkl
      have HM := hideB (putL_more (l := l) hkl)
      have ho := HOK.out k hkl
      obtain ⟨x, hx⟩ : ∃ x, x = s[k] := ⟨_, rfl⟩
      rw [← hx] at ci HM ho
      clear hc hx
      obtain ⟨i, rfl⟩ : ∃ i : Nat, x = i := ⟨x.toNat, by have := ho.1; omega⟩
      have hin : i < n := by have h1 := ho.2.1; have h2 := HLN.out; omega
      have hiv : i < (codesV l).length := by rw [HCL.out]; omega
      have cc := (X1.out.below GB.out z1).cell hiv
      rw [codes_get l HK.out i hiv] at cc
      have hcl := codeOf_le l HK.out i
      obtain ⟨c, hcc⟩ : ∃ c, c = codeOf l i := ⟨_, rfl⟩
      have HCC := hideB hcc
      rw [← hcc] at cc hcl
      clear hcc ho
      obtain ⟨q, hq⟩ : ∃ q, q = (putL l (s.take k)).length := ⟨_, rfl⟩
      have hqb : q ≤ 4800 := by
        have h1 := putL_le l HK.out (s.take k)
        rw [List.length_take] at h1
        omega
      have HNX : Hid (Lib.byteCells (putL l (s.take k)) ++ Lib.strCells c = Lib.byteCells (putL l (s.take (k + 1)))) := by
        unfold Hid
        rw [HM.out, Lib.byteCells_append, Lib.strCells_eq, HCC.out]
        rfl
      have HNL : Hid (q + c.size = (putL l (s.take (k + 1))).length) := by
        unfold Hid
        rw [HM.out, List.length_append, hq, HCC.out]
        rfl
      have hown := HO.out
      rw [← hq] at hown
      clear hq
      go_wp2_with (at_builtin; refine Lib.wpList_append_own_string _ rfl _ _ 22 9 rfl w1.heap.size 5 i0 Try.underlying22 Try.underlying9 hi0 hz0 hz1 hz2 _ _ _ rfl hown c rfl ?c3 ?c4 ?c5 ?_)
      case c3 => unfold maxLen; omega
      case c4 => omega
      case c5 => omega
      intro v' w2 hown' hgrow _
      rw [HNX.out] at hown'
      have R2 := hideB (own_lenB hown' HNL.out)
      have B2 := hideB (GB.out.grown hgrow (by omega) (fun k hk => (hown.lt k hk).1))
      clear hown' hgrow hown
      go_wp2_with fail
      go_roundw
      case rel => exact ⟨k + 1, by go_num, by omega, R2.out, B2.out⟩
      case measure => simp [intOf]; omega
    · have HE : Hid (putL l (s.take k) = putL l s) := by
        unfold Hid
        rw [List.take_of_length_le (by have := HMS.out; omega)]
      have hcv := own_string (P := Try.prog) (src := 22) (dst := 9) (putL l (s.take k)) HO.out Try.underlying22 Try.underlying5 Try.underlying9
      rw [HE.out] at hcv
      go_wp2_with fail
      go_ret
      exact ⟨rfl, B1.out.trans (GB.out.mono (Nat.le_of_lt z1))⟩

set_option maxRecDepth 100000 in
set_option maxHeartbeats 4000000 in
theorem putS_yes (l s : List Int) (a a' : Option Addr) (cap cap' : Nat) (w : World) (hl : Ints w w.heap.size a l) (hs : Ints w w.heap.size a' s) (hm : ¬ 400 < s.length) (hw : whole l = true) :
    Calls Try.prog 41 #[.slice a l.length cap, .slice a' s.length cap'] w fun e w' => e = .returned (.string (putR l s)) ∧ Below w.heap.size w w' := by
  have HW := hideB (l04Whole_any l a cap w.heap.size w hl (by have := whole_len hw; omega))
  rw [hw] at HW
  have HPU := hideB (l04Put_any l s a a' cap cap' w hl hs hm hw)
  have HS := hideB hs
  have HL := hideB hl
  have HK := hideB (whole_ok hw)
  have hn := whole_len hw
  have HYES := hideB (fun (h : ∀ x ∈ s, okS l x) => putR_yes hm hw h)
  have HBAD := hideB (fun (j : Nat) (hj : j < s.length) (h : ¬ okS l s[j]) => putR_bad hj h)
  have HPL := hideB (putL_le l (whole_ok hw) s)
  clear hl hs hw
  obtain ⟨n, hln⟩ : ∃ n, n = l.length := ⟨_, rfl⟩
  obtain ⟨m, hms⟩ : ∃ m, m = s.length := ⟨_, rfl⟩
  obtain ⟨r, hr⟩ : ∃ r, r = putR l s := ⟨_, rfl⟩
  have HLN := hideB hln
  have HMS := hideB hms
  rw [← hr] at HYES HBAD ⊢
  rw [← hln] at hn HW HPU ⊢
  rw [← hms] at hm HPU HPL ⊢
  clear hln hms hr
  have hd4 : decide ((400 : Int) < m) = false := decide_eq_false (by omega)
  have hd5 : decide ((400 : Int) < n) = false := decide_eq_false (by omega)
  go_enter Try.func41, Try.ntmps41
  go_wp2_with fail
  refine HW.out.mono ?_
  rintro e w' ⟨rfl, hw⟩
  subst w'
  go_wp2_with fail
  go_loopw [5] (fun i wr => ∃ k : Nat, i = .int .i64 k ∧ k ≤ m ∧ (∀ j (hj : j < s.length), j < k → okS l s[j]) ∧ wr = w) (fun i _ => m - (intOf i).toNat)
  case atStart => exact ⟨0, rfl, Nat.zero_le _, fun j hj h0 => absurd h0 (Nat.not_lt_zero j), rfl⟩
  case round =>
    obtain ⟨k, rfl, hk, hall, hw⟩ := hrel
    subst hw
    have HA := hideB hall
    clear hall
    by_cases hlt : k < m
    · have hkl : k < s.length := by rw [← HMS.out]; exact hlt
      obtain ⟨b, off, rfl, hb, hc⟩ := HS.out.some (by omega)
      have ci := hc k hkl
      have HB1 := hideB (HBAD.out k hkl)
      obtain ⟨x, hx⟩ : ∃ x, x = s[k] := ⟨_, rfl⟩
      have HX := hideB hx
      rw [← hx] at ci HB1
      clear hc hx
      by_cases h0 : x < 0 ∨ (n : Int) - 1 < x
      · have HE := hideB (HB1.out (fun h => by have h1 := h.1; have h2 := h.2.1; have h3 := HLN.out; omega))
        have HI := hideB (is_no x 0 ((n : Int) - 1) wr h0)
        clear h0
        go_wp2_with fail
        refine HI.out.mono ?_
        rintro e w' ⟨rfl, hw⟩
        subst w'
        go_wp2_with fail
        go_ret
        exact ⟨ret_strJ HE.out.symm, Below.refl _ _⟩
      · have HI := hideB (is_yes x 0 ((n : Int) - 1) wr (by omega) (by omega))
        obtain ⟨i, rfl⟩ : ∃ i : Nat, x = i := ⟨x.toNat, by omega⟩
        have hin : i < n := by omega
        have hil : i < l.length := by rw [← HLN.out]; omega
        obtain ⟨bl, offl, rfl, hbl, hcl⟩ := HL.out.some (by omega)
        have cl := hcl i hil
        have hx12 := HK.out _ (List.getElem_mem hil)
        have HGD := hideB (getD_get hil)
        obtain ⟨y, hy⟩ : ∃ y, y = l[i] := ⟨_, rfl⟩
        rw [← hy] at cl hx12 HGD
        clear hcl hy h0
        by_cases hp : 0 < y
        · have hne : (y == 0) = false := beq_eq_false_iff_ne.2 (by omega)
          have HOK2 : Hid (okS l (i : Int)) := okS_nat hil (by rw [HGD.out]; exact hp)
          go_wp2_with fail
          refine HI.out.mono ?_
          rintro e w' ⟨rfl, hw⟩
          subst w'
          go_wp2_with fail
          go_roundw
          case rel =>
            refine ⟨k + 1, by go_num, by omega, fun j hj hjk => ?_, trivial⟩
            by_cases e : j = k
            · subst e
              rw [← HX.out]
              exact HOK2.out
            · exact HA.out j hj (by omega)
          case measure => simp [intOf]; omega
        · obtain rfl : y = 0 := by omega
          have HE := hideB (HB1.out (fun h => by
            have h1 := h.2.2
            rw [Int.toNat_natCast, HGD.out] at h1
            omega))
          go_wp2_with fail
          refine HI.out.mono ?_
          rintro e w' ⟨rfl, hw⟩
          subst w'
          go_wp2_with fail
          go_ret
          exact ⟨ret_strJ HE.out.symm, Below.refl _ _⟩
    · have HALL : Hid (∀ x ∈ s, okS l x) := fun x hx => by
        obtain ⟨j, hj, rfl⟩ := List.getElem_of_mem hx
        exact HA.out j hj (by have := HMS.out; omega)
      have HE := hideB (HYES.out HALL.out)
      have HPP := hideB (HPU.out HALL.out)
      obtain ⟨t, ht⟩ : ∃ t : ByteArray, t = ⟨(putL l s).toArray⟩ := ⟨_, rfl⟩
      have htz : t.size ≤ 4800 := by
        have h1 := HPL.out
        have h2 : t.size = (putL l s).length := by rw [ht]; simp [ByteArray.size]
        omega
      rw [← ht] at HE HPP
      clear ht
      go_wp2_with fail
      refine HPP.out.mono ?_
      rintro e w2 ⟨rfl, hb2⟩
      have B2 := hideB hb2
      clear hb2
      go_wp2_with fail
      go_ret
      exact ⟨ret_strJ HE.out.symm, B2.out⟩

set_option maxHeartbeats 1000000 in
theorem put_spec (l s : List Int) (a a' : Option Addr) (cap cap' : Nat) (w : World) (hl : Ints w w.heap.size a l) (hs : Ints w w.heap.size a' s) (hn : l.length ≤ 1048576) (hm : s.length ≤ 1048576) :
    Calls Try.prog 41 #[.slice a l.length cap, .slice a' s.length cap'] w fun e w' => e = .returned (.string (putR l s)) ∧ Below w.heap.size w w' := by
  by_cases h5 : 400 < l.length
  · have HE := hideB (putR_no (s := s) (Or.inr (whole_no (right_no (l := l) (Or.inl (within_long (by omega)))))))
    generalize putR l s = r at HE ⊢
    clear hl hs
    generalize s.length = m at hm ⊢
    generalize l.length = n at hn h5 ⊢
    go_enter Try.func41, Try.ntmps41
    go_wp2_with fail
    go_ret
    exact ⟨ret_strJ HE.out.symm, Below.refl _ _⟩
  · have hd5 : decide ((400 : Int) < l.length) = false := decide_eq_false (by omega)
    by_cases h4 : 400 < s.length
    · have HE := hideB (putR_no (l := l) (Or.inl h4))
      generalize putR l s = r at HE ⊢
      clear hl hs
      generalize s.length = m at h4 hm ⊢
      generalize l.length = n at hn hd5 h5 ⊢
      go_enter Try.func41, Try.ntmps41
      go_wp2_with fail
      go_ret
      exact ⟨ret_strJ HE.out.symm, Below.refl _ _⟩
    · cases hw : whole l with
      | true => exact putS_yes l s a a' cap cap' w hl hs h4 hw
      | false =>
        have HE := hideB (putR_no (s := s) (Or.inr hw))
        have HW := hideB (l04Whole_any l a cap w.heap.size w hl (by omega))
        rw [hw] at HW
        have hd4 : decide ((400 : Int) < s.length) = false := decide_eq_false (by omega)
        generalize putR l s = r at HE ⊢
        clear hl hs hw
        generalize s.length = m at h4 hm hd4 ⊢
        generalize l.length = n at hn hd5 h5 HW ⊢
        go_enter Try.func41, Try.ntmps41
        go_wp2_with fail
        refine HW.out.mono ?_
        rintro e w' ⟨rfl, hw⟩
        subst w'
        go_wp2_with fail
        go_ret
        exact ⟨ret_strJ HE.out.symm, Below.refl _ _⟩
end Go.Proofs.Ytdnmbagdegbnfaa.Bi

namespace Go.Proofs.Ytdnmbagdegbnfaa.fnExactCodePut
open Go.RowKit
open Go.Proofs.Ytdnmbagdegbnfaa.Bi
open Go.Proofs.Ytdnmbagdegbnfaa.In

set_option maxHeartbeats 4000000 in
theorem walk_in (l s : List Int) (a a' : Option Addr) (cap cap' : Nat) (w : World) (hl : Ints w w.heap.size a l) (hs : Ints w w.heap.size a' s) (hn : l.length ≤ maxLen) (hm : s.length ≤ maxLen) :
    Calls Try.prog 8 #[.slice a l.length cap, .slice a' s.length cap'] w fun e w' => e = .returned (.bool true) ∧ Below w.heap.size w w' := by
  have HTl := hideB (fun W (hW : Below w.heap.size w W) (h : l.length ≤ 1048576) => toInt_any a cap l W ((hl.below hW).mono hW.size) h)
  have HTs := hideB (fun W (hW : Below w.heap.size w W) (h : s.length ≤ 1048576) => toInt_any a' cap' s W ((hs.below hW).mono hW.size) h)
  have HI := hideB (fun (x y : Option Addr) (W : World) (h : l.length ≤ 1048576) (h' : s.length ≤ 1048576) hx hy => put_impl l s x y l.length s.length W hx hy h h')
  have HP := hideB (fun (x y : Option Addr) (W : World) (h : l.length ≤ 1048576) (h' : s.length ≤ 1048576) hx hy => put_spec l s x y l.length s.length W hx hy h h')
  have HEl := hideB (fun (W : World) (lo hi lo' hi' : Nat) (u v : Value) (h1 : OwnIn W lo hi u l) (h2 : OwnIn W lo' hi' v l) (hm : l.length ≤ 1048576) => eq_in h1 h2 hm)
  have HEs := hideB (fun (W : World) (lo hi lo' hi' : Nat) (u v : Value) (h1 : OwnIn W lo hi u s) (h2 : OwnIn W lo' hi' v s) (hm : s.length ≤ 1048576) => eq_in h1 h2 hm)
  have HIl := hideB (fun (W : World) (g : Nat) (h1 : IsI W g 2 l) => h1.inn l.length)
  have HIs := hideB (fun (W : World) (g : Nat) (h1 : IsI W g 2 s) => h1.inn s.length)
  clear hl hs
  unfold maxLen at hn hm
  generalize l.length = n at hn HTl HI HP HEl HIl ⊢
  generalize s.length = m at hm HTs HI HP HEs HIs ⊢
  generalize putR l s = q at HI HP
  by_cases hbig : 1048576 < n
  · go_enter Try.func8, Try.ntmps8
    go_wp2_with fail
    go_ret
    exact ⟨rfl, Below.refl _ _⟩
  · by_cases hbig2 : 1048576 < m
    · go_enter Try.func8, Try.ntmps8
      go_wp2_with fail
      go_ret
      exact ⟨rfl, Below.refl _ _⟩
    · have HN : Hid (n ≤ 1048576) := by
        unfold Hid
        omega
      have HM : Hid (m ≤ 1048576) := by
        unfold Hid
        omega
      go_enter Try.func8, Try.ntmps8
      go_wp2_with fail
      refine (HTl.out w (Below.refl _ _) HN.out).mono ?_
      rintro e w1 ⟨rfl, hi1, hb1⟩
      have X1 := hideB hi1
      have B1 := hideB hb1
      have z1 : w.heap.size < w1.heap.size := hi1.lt
      clear hi1 hb1
      go_wp2_with fail
      refine (HTs.out w1 B1.out HM.out).mono ?_
      rintro e w2 ⟨rfl, hi2, hb2⟩
      have X2 := hideB ((X1.out.below hb2 X1.out.lt).ints (B := w2.heap.size) (Nat.lt_of_lt_of_le z1 hb2.size))
      have Y2 := hideB (hi2.ints hi2.lt)
      have B2 := hideB (below2 B1.out hb2)
      clear hi2 hb2
      go_wp2_with fail
      refine (HP.out _ _ w2 HN.out HM.out X2.out Y2.out).mono ?_
      rintro e w3 ⟨rfl, hb3⟩
      have B3 := hideB (below2 B2.out hb3)
      clear hb3
      go_wp2_with fail
      refine (HTl.out w3 B3.out HN.out).mono ?_
      rintro e w4 ⟨rfl, hi4, hb4⟩
      have X4 := hideB hi4
      have B4 := hideB (below2 B3.out hb4)
      have z4 : w3.heap.size < w4.heap.size := hi4.lt
      clear hi4 hb4
      go_wp2_with fail
      refine (HTs.out w4 B4.out HM.out).mono ?_
      rintro e w5 ⟨rfl, hi5, hb5⟩
      have X5 := hideB (X4.out.below hb5 X4.out.lt)
      have Y5 := hideB hi5
      have B5 := hideB (below2 B4.out hb5)
      have z5 : w4.heap.size < w5.heap.size := hi5.lt
      clear hi5 hb5
      go_wp2_with fail
      refine (HI.out _ _ w5 HN.out HM.out (X5.out.ints X5.out.lt) (Y5.out.ints Y5.out.lt)).mono ?_
      rintro e w6 ⟨rfl, hb6⟩
      have X6 := hideB (X5.out.below hb6 X5.out.lt)
      have Y6 := hideB (Y5.out.below hb6 Y5.out.lt)
      have B6 := hideB (below2 B5.out hb6)
      have z6 := hb6.size
      clear hb6
      go_wp2_with fail
      refine (HTl.out w6 B6.out HN.out).mono ?_
      rintro e w7 ⟨rfl, hi7, hb7⟩
      have X7 := hideB (HIl.out _ _ (X6.out.below hb7 X6.out.lt))
      have Z7 := hideB (HIl.out _ _ hi7)
      have Y7 := hideB (Y6.out.below hb7 Y6.out.lt)
      have B7 := hideB (below2 B6.out hb7)
      clear hi7 hb7
      go_wp2_with fail
      refine (HEl.out _ _ _ _ _ _ _ X7.out Z7.out HN.out).mono ?_
      rintro e w8 ⟨rfl, hb8⟩
      have Y8 := hideB (Y7.out.below hb8 Y7.out.lt)
      have B8 := hideB (below2 B7.out hb8)
      clear hb8
      go_wp2_with fail
      refine (HTs.out w8 B8.out HM.out).mono ?_
      rintro e w9 ⟨rfl, hi9, hb9⟩
      have Y9 := hideB (HIs.out _ _ (Y8.out.below hb9 Y8.out.lt))
      have Z9 := hideB (HIs.out _ _ hi9)
      have B9 := hideB (below2 B8.out hb9)
      clear hi9 hb9
      go_wp2_with fail
      refine (HEs.out _ _ _ _ _ _ _ Y9.out Z9.out HM.out).mono ?_
      rintro e w10 ⟨rfl, hb10⟩
      have B10 := hideB (below2 B9.out hb10)
      clear hb10
      go_wp2_with fail
      go_ret
      exact ⟨rfl, B10.out⟩

theorem walk (a0 : Option Addr) (len0 cap0 : Nat) (z0 : List Int) {w : World} (w0 : IsNums w a0 len0 cap0 z0) (a1 : Option Addr) (len1 cap1 : Nat) (z1 : List Int) (w1 : IsNums w a1 len1 cap1 z1) :
    Calls Try.prog 8 #[.slice a0 len0 cap0, .slice a1 len1 cap1] w fun e w' => e = .returned (.bool true) ∧ Below w.heap.size w w' := by
  obtain ⟨l, rfl, hl, hn, _, _⟩ := ints_of w0
  obtain ⟨s, rfl, hs, hm, _, _⟩ := ints_of w1
  exact walk_in l s a0 a1 cap0 cap1 w hl hs hn hm
end Go.Proofs.Ytdnmbagdegbnfaa.fnExactCodePut
