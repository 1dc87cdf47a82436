/- The walk of the specification's BitsPack, and of the law. -/
import Derived.Test.YtghghkfhcpldhaaPackWalks
namespace Go.Proofs.Ytghghkfhcpldhaa.Bi
open Go.RowKit
open Go.Proofs.Ytghghkfhcpldhaa.Sh
open Go.Proofs.Ytghghkfhcpldhaa.Nu (ret_strJ bv own_string app_below)

def pkL (t : ByteArray) (q : Nat) : List UInt8 := (List.range q).map fun j => UInt8.ofNat (pk t j 8)
theorem pkL_length (t : ByteArray) (q : Nat) : (pkL t q).length = q := by simp [pkL]
theorem pkL_next (t : ByteArray) (q : Nat) : pkL t (q + 1) = pkL t q ++ [UInt8.ofNat (pk t q 8)] := by simp [pkL, List.range_succ]
theorem pkL_all (t : ByteArray) : (⟨(pkL t ((t.size + 7) / 8)).toArray⟩ : ByteArray) = packV t := rfl
theorem pkL_row {w : World} {B q : Nat} {e : TypeId} {v : Value} {t : ByteArray} {h : Nat} (hh : h = pk t q 8) (hr : w.ownsRow B e 1 v (q + 1) ((pkL t q).map bv ++ [.int .u8 (h : Int)])) :
    w.ownsRow B e 1 v (q + 1) ((pkL t (q + 1)).map bv) := by
  rw [pkL_next, List.map_append, List.map_singleton]
  have : bv (UInt8.ofNat (pk t q 8)) = .int .u8 (h : Int) := by
    have := pk_lt t q 8 (Nat.le_refl _)
    unfold bv
    rw [UInt8.toNat_ofNat', Nat.mod_eq_of_lt (by omega), hh]
  rw [this]
  exact hr
theorem own_len {w : World} {B m n : Nat} {e : TypeId} {v : Value} {xs : List Value} (h : w.ownsRow B e 1 v m xs) (hm : m = n) : w.ownsRow B e 1 v n xs := by rw [← hm]; exact h

set_option maxRecDepth 100000 in
set_option maxHeartbeats 2000000 in
theorem packS_yes (t : ByteArray) (w : World) (ht : ¬ 8000 < t.size) (hg : good t = true) :
    Calls Try.prog 14 #[.string t] w fun e w' => e = .returned (.string (packV t)) ∧ Below w.heap.size w w' := by
  obtain ⟨i0, hi, hz0, hz1, hz2⟩ := info_parts Nu.Try.infoJ5
  have HG := hideB (good_spec t w (by omega))
  rw [hg] at HG
  have HA := hideB (good_yes hg)
  have hd8 : decide (8000 < (t.size : Int)) = false := decide_eq_false (by omega)
  clear hg
  go_enter Try.func14, Try.ntmps14
  go_wp2_with fail
  refine HG.out.mono ?_
  rintro e w' ⟨rfl, hw⟩
  subst w'
  go_wp2_with fail
  go_loopw [4, 3] (fun i v wr => ∃ q : Nat, i = .int .i64 (8 * (q : Int)) ∧ 8 * q ≤ t.size + 7 ∧ wr.ownsRow w.heap.size 5 1 v q ((pkL t q).map bv) ∧ Below w.heap.size w wr) (fun i _ _ => t.size + 8 - (intOf i).toNat)
  case atStart => exact ⟨0, rfl, by omega, World.ownsRow_made _ _ _ (Nat.le_refl _) (by decide) rfl, (Below.refl _ _).alloc (Nat.le_refl _) _⟩
  case round =>
    obtain ⟨q, rfl, hq, hown, hbel⟩ := hrel
    have HO := hideB hown
    have GB := hideB hbel
    clear hown hbel
    by_cases hlt : 8 * q < t.size
    · have hlt' : 8 * (q : Int) < t.size := by omega
      go_wp2_with fail
      go_loopw [6, 5] (fun i v wr2 => ∃ r h : Nat, i = .int .i64 (8 * (q : Int) + r) ∧ v = .int .i64 h ∧ h = hd t q r ∧ r ≤ 8 ∧ wr2 = wr) (fun i _ _ => 8 * q + 8 - (intOf i).toNat)
      case atStart => exact ⟨0, 0, by go_num, rfl, rfl, by omega, rfl⟩
      case round =>
        obtain ⟨r, h, rfl, rfl, hh, hr, hw⟩ := hrel
        subst hw
        have HH := hideB hh
        have hle : h < 256 := by rw [hh]; exact hd_le t q r hr
        clear hh
        by_cases hr8 : r < 8
        · by_cases hin : 8 * q + r < t.size
          · obtain ⟨i, hii⟩ : ∃ i : Nat, i = 8 * q + r := ⟨_, rfl⟩
            have hiz : 8 * (q : Int) + r = i := by omega
            have hib : i < t.size := by omega
            obtain ⟨y, b0, hy⟩ := byte_at t i hib
            have h01 := HA.out i (by omega)
            rw [← hy] at h01
            have h02 : (48 : Int) ≤ y.toNat ∧ (y.toNat : Int) ≤ 49 := by omega
            have HN : Hid (2 * (h : Int) + ((y.toNat : Int) - 48) = ((hd t q (r + 1) : Nat) : Int)) := by
              unfold Hid
              simp only [hd]
              rw [← HH.out, ← hii]
              unfold one
              by_cases e : bt t i = 49
              · rw [if_pos ⟨by omega, e⟩]
                omega
              · rw [if_neg (fun x => e x.2)]
                omega
            have HI := hideB hii
            clear hy h01 hii
            rw [hiz]
            have hi8 : (i : Int) < 8 * (q : Int) + 8 := by omega
            have hit : (i : Int) < t.size := by omega
            go_wp2_with fail
            go_roundw
            case rel => exact ⟨r + 1, hd t q (r + 1), by go_num, by rw [← HN.out], rfl, by omega, trivial⟩
            case measure => simp [intOf]; omega
          · have HN : Hid (2 * (h : Int) = ((hd t q (r + 1) : Nat) : Int)) := by
              unfold Hid
              simp only [hd]
              rw [← HH.out, one_behind t _ (by omega)]
              omega
            have hit : ¬ 8 * (q : Int) + r < t.size := by omega
            go_wp2_with fail
            go_roundw
            case rel => exact ⟨r + 1, hd t q (r + 1), by go_num, by rw [← HN.out], rfl, by omega, trivial⟩
            case measure => simp [intOf]; omega
        · have HE : Hid (h = pk t q 8) := by
            unfold Hid
            rw [HH.out, show r = 8 by omega, hd_all]
          have hge : ¬ 8 * (q : Int) + r < 8 * (q : Int) + 8 := by omega
          have hown := HO.out
          have hbz := GB.out.size
          go_wp2_with (at_builtin; refine wpList_append_own _ rfl (.tmp 42) (.tmp 45) 44 rfl w.heap.size 5 i0 (.int .u8 0) 1 1 Try.underlying44 hi hz0 hz1 hz2 rfl (by decide) _ _ _ rfl (hown.alloc _) ⟨wr.heap.size, 0, none⟩ 1 1 [.int .u8 (h : Int)] rfl rfl ?c1 ?c2 ?c3 ?c4 ?c5 ?_)
          case c2 => rfl
          case c3 => unfold maxLen; omega
          case c4 => omega
          case c5 => omega
          intro v' w1 hown' hgrow _
          have H1 := hideB (app_below GB.out (Nat.le_refl _) HO.out hgrow)
          have R1 := hideB (pkL_row HE.out hown')
          clear hown' hgrow hown
          go_wp2_with fail
          go_roundw
          case rel => exact ⟨q + 1, by go_num, by omega, R1.out, H1.out⟩
          case measure => simp [intOf]; omega
    · have hlt' : ¬ 8 * (q : Int) < t.size := by omega
      have HQ : Hid (q = (t.size + 7) / 8) := by
        unfold Hid
        omega
      have hcv := own_string (P := Try.prog) (src := 44) (dst := 9) (pkL t q) (own_len HO.out (pkL_length t q).symm) Try.underlying44 Try.underlying5 Try.underlying9
      have HE : Hid ((⟨(pkL t q).toArray⟩ : ByteArray) = packV t) := by
        unfold Hid
        rw [HQ.out]
        exact pkL_all t
      rw [HE.out] at hcv
      go_wp2_with fail
      go_ret
      exact ⟨rfl, GB.out⟩

set_option maxHeartbeats 1000000 in
theorem pack_spec (t : ByteArray) (w : World) (ht : t.size ≤ 1048576) :
    Calls Try.prog 14 #[.string t] w fun e w' => e = .returned (.string (packR t)) ∧ Below w.heap.size w w' := by
  by_cases h : 8000 < t.size
  · have HE := hideB (packR_no t (Or.inl h))
    go_enter Try.func14, Try.ntmps14
    go_wp2_with fail
    go_ret
    exact ⟨ret_strJ HE.out.symm, Below.refl _ _⟩
  · cases hg : good t with
    | false =>
      have HE := hideB (packR_no t (Or.inr hg))
      have HG := hideB (good_spec t w (by omega))
      rw [hg] at HG
      go_enter Try.func14, Try.ntmps14
      go_wp2_with fail
      refine HG.out.mono ?_
      rintro e w' ⟨rfl, hw⟩
      subst w'
      go_wp2_with fail
      go_ret
      exact ⟨ret_strJ HE.out.symm, Below.refl _ _⟩
    | true =>
      rw [packR_yes t h hg]
      exact packS_yes t w h hg
end Go.Proofs.Ytghghkfhcpldhaa.Bi

namespace Go.Proofs.Ytghghkfhcpldhaa.fnExactBitsPack
open Go.RowKit
open Go.Proofs.Ytghghkfhcpldhaa.Bi

set_option maxHeartbeats 400000 in
theorem walk (t : ByteArray) (ht : t.size ≤ maxLen) (w : World) :
    Calls Try.prog 4 #[.string t] w fun e w' => e = .returned (.bool true) ∧ Below w.heap.size w w' := by
  unfold maxLen at ht
  by_cases h : 1048576 < t.size
  · go_enter Try.func4, Try.ntmps4
    go_wp2_with fail
    go_ret
    exact ⟨rfl, Below.refl _ _⟩
  · go_enter Try.func4, Try.ntmps4
    go_wp2_with fail
    refine (pack_spec _ _ (by omega)).mono ?_
    rintro e wa ⟨rfl, hb1⟩
    go_wp2_with fail
    refine (pack_impl _ _ (by omega)).mono ?_
    rintro e wb ⟨rfl, hb2⟩
    go_wp2_with fail
    go_ret
    exact ⟨rfl, hb1.trans (hb2.mono hb1.size)⟩
end Go.Proofs.Ytghghkfhcpldhaa.fnExactBitsPack
