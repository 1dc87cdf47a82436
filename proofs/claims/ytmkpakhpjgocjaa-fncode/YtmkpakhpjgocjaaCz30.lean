/- Texts put together: GetTop3, PackSpec, OpenWalks. -/
import Derived.Test.YtmkpakhpjgocjaaCz29
import Derived.Test.YtmkpakhpjgocjaaCz28
/- What the specification's CodeGet answers; the laws' own helpers on such answers. -/
namespace Go.Proofs.Ytmkpakhpjgocjaa.Bi
open Go.RowKit
open Go.Proofs.Ytmkpakhpjgocjaa.In (Ints IsI OwnIn OwnI)
open Go.Proofs.Ytmkpakhpjgocjaa.St (Aft)

set_option maxRecDepth 100000 in
set_option maxHeartbeats 2000000 in
theorem get_spec (l : List Int) (t : ByteArray) (m : Int) (a : Option Addr) (cap : Nat) (w : World) (hl : Ints w w.heap.size a l) (hn : l.length ≤ 1048576) (ht : t.size ≤ 1048576) :
    Calls Try.prog 18 #[.slice a l.length cap, .string t, .int .i64 m] w fun e w' => ∃ v, e = .returned (.agg #[v, .int .i64 (getR l t m).2.1, .int .i64 (getR l t m).2.2]) ∧ OwnIn w' w.heap.size w'.heap.size v (getR l t m).1 ∧ Below w.heap.size w w' := by
  by_cases h4 : 400 < l.length
  · rw [getR_size (Or.inl h4)]
    clear hl
    generalize l.length = n at hn h4 ⊢
    go_enter Try.func18, Try.ntmps18
    go_wp2_with fail
    refine bodyPost_ret (v := .agg #[.slice none 0 0, .int .i64 0, .int .i64 2]) (by simp [results, Try.results18, go_sem]) rfl ⟨.slice none 0 0, rfl, nil_in _ _ _, (Below.refl _ _).alloc (Nat.le_refl _) _⟩
  · have hd4 : decide (400 < (l.length : Int)) = false := decide_eq_false (by omega)
    by_cases h8 : 8000 < t.size
    · rw [getR_size (Or.inr h8)]
      clear hl
      generalize l.length = n at hn h4 hd4 ⊢
      go_enter Try.func18, Try.ntmps18
      go_wp2_with fail
      refine bodyPost_ret (v := .agg #[.slice none 0 0, .int .i64 0, .int .i64 2]) (by simp [results, Try.results18, go_sem]) rfl ⟨.slice none 0 0, rfl, nil_in _ _ _, (Below.refl _ _).alloc (Nat.le_refl _) _⟩
    · have hd8 : decide (8000 < (t.size : Int)) = false := decide_eq_false (by omega)
      have hno : ¬ (400 < l.length ∨ 8000 < t.size) := by omega
      have B0 := hideB ((Below.refl w.heap.size w).alloc (Nat.le_refl _) (.cells #[.slice none 0 0, .int .i64 0, .int .i64 0] 37))
      have hl0 := (hl.below B0.out).mono (by simp : w.heap.size ≤ (w.alloc (.cells #[.slice none 0 0, .int .i64 0, .int .i64 0] 37)).heap.size)
      have HWH := hideB (l04Whole_any l a cap _ _ hl0 (by omega))
      have HGO := hideB (good_spec t (w.alloc (.cells #[.slice none 0 0, .int .i64 0, .int .i64 0] 37)) ht)
      cases hw : whole l with
      | false =>
        rw [getR_form hno (Or.inl hw)]
        rw [hw] at HWH
        clear hl hno hl0
        generalize l.length = n at hn h4 hd4 HWH ⊢
        go_enter Try.func18, Try.ntmps18
        go_wp2_with fail
        refine HWH.out.mono ?_
        rintro e w' ⟨rfl, hw'⟩
        subst w'
        go_wp2_with fail
        refine bodyPost_ret (v := .agg #[.slice none 0 0, .int .i64 0, .int .i64 1]) (by simp [results, Try.results18, go_sem]) rfl ⟨.slice none 0 0, rfl, nil_in _ _ _, (Below.refl _ _).alloc (Nat.le_refl _) _⟩
      | true =>
        cases hg : good t with
        | false =>
          rw [getR_form hno (Or.inr (Or.inl hg))]
          rw [hw] at HWH
          rw [hg] at HGO
          clear hl hno hw hl0
          generalize l.length = n at hn h4 hd4 HWH ⊢
          go_enter Try.func18, Try.ntmps18
          go_wp2_with fail
          refine HWH.out.mono ?_
          rintro e w' ⟨rfl, hw'⟩
          subst w'
          go_wp2_with fail
          refine HGO.out.mono ?_
          rintro e w' ⟨rfl, hw'⟩
          subst w'
          go_wp2_with fail
          refine bodyPost_ret (v := .agg #[.slice none 0 0, .int .i64 0, .int .i64 1]) (by simp [results, Try.results18, go_sem]) rfl ⟨.slice none 0 0, rfl, nil_in _ _ _, (Below.refl _ _).alloc (Nat.le_refl _) _⟩
        | true =>
          by_cases hm : m < 0 ∨ 400 < m
          · rw [getR_form hno (Or.inr (Or.inr hm))]
            have HIS := hideB (is_no m 0 400 (w.alloc (.cells #[.slice none 0 0, .int .i64 0, .int .i64 0] 37)) hm)
            rw [hw] at HWH
            rw [hg] at HGO
            clear hl hno hw hg hm hl0
            generalize l.length = n at hn h4 hd4 HWH ⊢
            go_enter Try.func18, Try.ntmps18
            go_wp2_with fail
            refine HWH.out.mono ?_
            rintro e w' ⟨rfl, hw'⟩
            subst w'
            go_wp2_with fail
            refine HGO.out.mono ?_
            rintro e w' ⟨rfl, hw'⟩
            subst w'
            go_wp2_with fail
            refine HIS.out.mono ?_
            rintro e w' ⟨rfl, hw'⟩
            subst w'
            go_wp2_with fail
            refine bodyPost_ret (v := .agg #[.slice none 0 0, .int .i64 0, .int .i64 1]) (by simp [results, Try.results18, go_sem]) rfl ⟨.slice none 0 0, rfl, nil_in _ _ _, (Below.refl _ _).alloc (Nat.le_refl _) _⟩
          · obtain ⟨k, rfl⟩ : ∃ k : Nat, m = k := ⟨m.toNat, by omega⟩
            have HIS := hideB (is_yes k 0 400 (w.alloc (.cells #[.slice none 0 0, .int .i64 0, .int .i64 0] 37)) (by omega) (by omega))
            have HGE := hideB (l04Get_any l t k a cap _ hl0 (by omega) (whole_right hw) (by omega))
            rw [getR_in hno hw hg (by omega)]
            rw [hw] at HWH
            rw [hg] at HGO
            have hz0 : (w.alloc (.cells #[.slice none 0 0, .int .i64 0, .int .i64 0] 37)).heap.size = w.heap.size + 1 := by simp
            have O0 := hideB (Out0.new w)
            clear hl hno hw hg hm hl0
            obtain ⟨q, hq⟩ : ∃ q, q = outS (st l t k) := ⟨_, rfl⟩
            rw [← hq] at HGE ⊢
            clear hq
            generalize l.length = n at hn h4 hd4 HWH HGE ⊢
            go_enter Try.func18, Try.ntmps18
            go_wp2_with fail
            refine HWH.out.mono ?_
            rintro e w' ⟨rfl, hw'⟩
            subst w'
            go_wp2_with fail
            refine HGO.out.mono ?_
            rintro e w' ⟨rfl, hw'⟩
            subst w'
            go_wp2_with fail
            refine HIS.out.mono ?_
            rintro e w' ⟨rfl, hw'⟩
            subst w'
            go_wp2_with fail
            refine HGE.out.mono ?_
            rintro e w2 ⟨v, rfl, hv, hb2⟩
            rw [hz0] at hv hb2
            have V2 := hideB hv
            have B2 := hideB (B0.out.trans (hb2.mono (Nat.le_succ _)))
            have O2 := hideB (O0.out.below hb2 (Nat.lt_succ_self _))
            obtain ⟨x, c, rfl, _⟩ := hv.ints
            obtain ⟨ql, hql⟩ : ∃ ql, ql = q.1.length := ⟨_, rfl⟩
            rw [← hql] at V2 ⊢
            clear hv hb2 hz0 hql
            have c0 := O2.out.c0
            have c1 := O2.out.c1
            have c2 := O2.out.c2
            have f0 := O2.out.fr 0
            have f1 := O2.out.fr 1
            have f2 := O2.out.fr 2
            go_wp2_with fail
            refine bodyPost_ret (v := .agg #[.slice x ql c, .int .i64 q.2.1, .int .i64 q.2.2]) (by simp [results, Try.results18, go_sem, c0, c1, c2]) rfl ⟨.slice x ql c, rfl, ?_, ?_⟩
            · have h1 := in_mono (hi' := w2.heap.size) V2.out (Nat.le_succ w.heap.size) (Nat.le_refl _)
              have h2 : OwnIn (((w2.setCell ⟨w.heap.size, 0, none⟩ (.slice x ql c)).setCell ⟨w.heap.size, 1, none⟩ (.int .i64 q.2.1)).setCell ⟨w.heap.size, 2, none⟩ (.int .i64 q.2.2)) (w.heap.size + 1) w2.heap.size (.slice x ql c) q.1 := by
                rcases V2.out with h | ⟨g, cc, hv, hg, hh, ho⟩
                · exact .inl h
                · exact .inr ⟨g, cc, hv, hg, hh, ((ho.of_heap (heap_setCell_other _ ⟨w.heap.size, 0, none⟩ g _ (by simp; omega))).of_heap (heap_setCell_other _ ⟨w.heap.size, 1, none⟩ g _ (by simp; omega))).of_heap (heap_setCell_other _ ⟨w.heap.size, 2, none⟩ g _ (by simp; omega))⟩
              exact in_mono h2 (Nat.le_succ _) (by simp [World.setCell])
            · exact ((B2.out.setCell (Nat.le_refl _) _).setCell (Nat.le_refl _) _).setCell (Nat.le_refl _) _

end Go.Proofs.Ytmkpakhpjgocjaa.Bi

/- The walk of the specification's BitsPack, and of the law. -/
namespace Go.Proofs.Ytmkpakhpjgocjaa.Bi
open Go.RowKit
open Go.Proofs.Ytmkpakhpjgocjaa.Sh
open Go.Proofs.Ytmkpakhpjgocjaa.Nu (ret_strJ bv own_string app_below)

def pkL (t : ByteArray) (q : Nat) : List UInt8 := (List.range q).map fun j => UInt8.ofNat (pk t j 8)
theorem pkL_length (t : ByteArray) (q : Nat) : (pkL t q).length = q := by simp [pkL]
theorem pkL_next (t : ByteArray) (q : Nat) : pkL t (q + 1) = pkL t q ++ [UInt8.ofNat (pk t q 8)] := by simp [pkL, List.range_succ]
theorem pkL_all (t : ByteArray) : (⟨(pkL t ((t.size + 7) / 8)).toArray⟩ : ByteArray) = packV t := rfl
theorem pkL_row {w : World} {B q : Nat} {e : TypeId} {v : Value} {t : ByteArray} {h : Nat} (hh : h = pk t q 8) (hr : w.ownsRow B e 1 v (q + 1) ((pkL t q).map bv ++ [.int .u8 (h : Int)])) :
    w.ownsRow B e 1 v (q + 1) ((pkL t (q + 1)).map bv) := by
  rw [pkL_next, List.map_append, List.map_singleton]
  have : bv (UInt8.ofNat (pk t q 8)) = .int .u8 (h : Int) := by
    have := pk_lt t q 8 (Nat.le_refl _)
    unfold bv
    rw [UInt8.toNat_ofNat', Nat.mod_eq_of_lt (by omega), hh]
  rw [this]
  exact hr
theorem own_len {w : World} {B m n : Nat} {e : TypeId} {v : Value} {xs : List Value} (h : w.ownsRow B e 1 v m xs) (hm : m = n) : w.ownsRow B e 1 v n xs := by rw [← hm]; exact h

set_option maxRecDepth 100000 in
set_option maxHeartbeats 2000000 in
theorem packS_yes (t : ByteArray) (w : World) (ht : ¬ 8000 < t.size) (hg : good t = true) :
    Calls Try.prog 29 #[.string t] w fun e w' => e = .returned (.string (packV t)) ∧ Below w.heap.size w w' := by
  obtain ⟨i0, hi, hz0, hz1, hz2⟩ := info_parts Nu.Try.infoJ5
  have HG := hideB (good_spec t w (by omega))
  rw [hg] at HG
  have HA := hideB (good_yes hg)
  have hd8 : decide (8000 < (t.size : Int)) = false := decide_eq_false (by omega)
  clear hg
  go_enter Try.func29, Try.ntmps29
  go_wp2_with fail
  refine HG.out.mono ?_
  rintro e w' ⟨rfl, hw⟩
  subst w'
  go_wp2_with fail
  go_loopw [4, 3] (fun i v wr => ∃ q : Nat, i = .int .i64 (8 * (q : Int)) ∧ 8 * q ≤ t.size + 7 ∧ wr.ownsRow w.heap.size 5 1 v q ((pkL t q).map bv) ∧ Below w.heap.size w wr) (fun i _ _ => t.size + 8 - (intOf i).toNat)
  case atStart => exact ⟨0, rfl, by omega, World.ownsRow_made _ _ _ (Nat.le_refl _) (by decide) rfl, (Below.refl _ _).alloc (Nat.le_refl _) _⟩
  case round =>
    obtain ⟨q, rfl, hq, hown, hbel⟩ := hrel
    have HO := hideB hown
    have GB := hideB hbel
    clear hown hbel
    by_cases hlt : 8 * q < t.size
    · have hlt' : 8 * (q : Int) < t.size := by omega
      go_wp2_with fail
      go_loopw [6, 5] (fun i v wr2 => ∃ r h : Nat, i = .int .i64 (8 * (q : Int) + r) ∧ v = .int .i64 h ∧ h = hd t q r ∧ r ≤ 8 ∧ wr2 = wr) (fun i _ _ => 8 * q + 8 - (intOf i).toNat)
      case atStart => exact ⟨0, 0, by go_num, rfl, rfl, by omega, rfl⟩
      case round =>
        obtain ⟨r, h, rfl, rfl, hh, hr, hw⟩ := hrel
        subst hw
        have HH := hideB hh
        have hle : h < 256 := by rw [hh]; exact hd_le t q r hr
        clear hh
        by_cases hr8 : r < 8
        · by_cases hin : 8 * q + r < t.size
          · obtain ⟨i, hii⟩ : ∃ i : Nat, i = 8 * q + r := ⟨_, rfl⟩
            have hiz : 8 * (q : Int) + r = i := by omega
            have hib : i < t.size := by omega
            obtain ⟨y, b0, hy⟩ := byte_at t i hib
            have h01 := HA.out i (by omega)
            rw [← hy] at h01
            have h02 : (48 : Int) ≤ y.toNat ∧ (y.toNat : Int) ≤ 49 := by omega
            have HN : Hid (2 * (h : Int) + ((y.toNat : Int) - 48) = ((hd t q (r + 1) : Nat) : Int)) := by
              unfold Hid
              simp only [hd]
              rw [← HH.out, ← hii]
              unfold one
              by_cases e : bt t i = 49
              · rw [if_pos ⟨by omega, e⟩]
                omega
              · rw [if_neg (fun x => e x.2)]
                omega
            have HI := hideB hii
            clear hy h01 hii
            rw [hiz]
            have hi8 : (i : Int) < 8 * (q : Int) + 8 := by omega
            have hit : (i : Int) < t.size := by omega
            go_wp2_with fail
            go_roundw
            case rel => exact ⟨r + 1, hd t q (r + 1), by go_num, by rw [← HN.out], rfl, by omega, trivial⟩
            case measure => simp [intOf]; omega
          · have HN : Hid (2 * (h : Int) = ((hd t q (r + 1) : Nat) : Int)) := by
              unfold Hid
              simp only [hd]
              rw [← HH.out, one_behind t _ (by omega)]
              omega
            have hit : ¬ 8 * (q : Int) + r < t.size := by omega
            go_wp2_with fail
            go_roundw
            case rel => exact ⟨r + 1, hd t q (r + 1), by go_num, by rw [← HN.out], rfl, by omega, trivial⟩
            case measure => simp [intOf]; omega
        · have HE : Hid (h = pk t q 8) := by
            unfold Hid
            rw [HH.out, show r = 8 by omega, hd_all]
          have hge : ¬ 8 * (q : Int) + r < 8 * (q : Int) + 8 := by omega
          have hown := HO.out
          have hbz := GB.out.size
          go_wp2_with (at_builtin; refine wpList_append_own _ rfl (.tmp 42) (.tmp 45) 22 rfl w.heap.size 5 i0 (.int .u8 0) 1 1 Try.underlying22 hi hz0 hz1 hz2 rfl (by decide) _ _ _ rfl (hown.alloc _) ⟨wr.heap.size, 0, none⟩ 1 1 [.int .u8 (h : Int)] rfl rfl ?c1 ?c2 ?c3 ?c4 ?c5 ?_)
          case c2 => rfl
          case c3 => unfold maxLen; omega
          case c4 => omega
          case c5 => omega
          intro v' w1 hown' hgrow _
          have H1 := hideB (app_below GB.out (Nat.le_refl _) HO.out hgrow)
          have R1 := hideB (pkL_row HE.out hown')
          clear hown' hgrow hown
          go_wp2_with fail
          go_roundw
          case rel => exact ⟨q + 1, by go_num, by omega, R1.out, H1.out⟩
          case measure => simp [intOf]; omega
    · have hlt' : ¬ 8 * (q : Int) < t.size := by omega
      have HQ : Hid (q = (t.size + 7) / 8) := by
        unfold Hid
        omega
      have hcv := own_string (P := Try.prog) (src := 22) (dst := 9) (pkL t q) (own_len HO.out (pkL_length t q).symm) Try.underlying22 Try.underlying5 Try.underlying9
      have HE : Hid ((⟨(pkL t q).toArray⟩ : ByteArray) = packV t) := by
        unfold Hid
        rw [HQ.out]
        exact pkL_all t
      rw [HE.out] at hcv
      go_wp2_with fail
      go_ret
      exact ⟨rfl, GB.out⟩

set_option maxHeartbeats 1000000 in
theorem pack_spec (t : ByteArray) (w : World) (ht : t.size ≤ 1048576) :
    Calls Try.prog 29 #[.string t] w fun e w' => e = .returned (.string (packR t)) ∧ Below w.heap.size w w' := by
  by_cases h : 8000 < t.size
  · have HE := hideB (packR_no t (Or.inl h))
    go_enter Try.func29, Try.ntmps29
    go_wp2_with fail
    go_ret
    exact ⟨ret_strJ HE.out.symm, Below.refl _ _⟩
  · cases hg : good t with
    | false =>
      have HE := hideB (packR_no t (Or.inr hg))
      have HG := hideB (good_spec t w (by omega))
      rw [hg] at HG
      go_enter Try.func29, Try.ntmps29
      go_wp2_with fail
      refine HG.out.mono ?_
      rintro e w' ⟨rfl, hw⟩
      subst w'
      go_wp2_with fail
      go_ret
      exact ⟨ret_strJ HE.out.symm, Below.refl _ _⟩
    | true =>
      rw [packR_yes t h hg]
      exact packS_yes t w h hg
end Go.Proofs.Ytmkpakhpjgocjaa.Bi

/- The walks of both BitsOpen, and of the law. -/
namespace Go.Proofs.Ytmkpakhpjgocjaa.Bi
open Go.RowKit
open Go.Proofs.Ytmkpakhpjgocjaa.Sh
open Go.Proofs.Ytmkpakhpjgocjaa.Nu (ret_strJ)

set_option maxRecDepth 100000 in
set_option maxHeartbeats 2000000 in
theorem open_yes (t : ByteArray) (m : Nat) (w : World) (ht : ¬ 8000 < t.size) (hm : m ≤ 8 * t.size) :
    Calls Try.prog 30 #[.string t, .int .i64 m] w fun e w' => e = .returned (.string (openV t m)) ∧ Below w.heap.size w w' := by
  obtain ⟨i0, hi, hz0, hz1, hz2⟩ := info_parts Nu.Try.infoJ5
  have hd8 : decide (8000 < (t.size : Int)) = false := decide_eq_false (by omega)
  have hd0 : decide ((m : Int) < 0) = false := decide_eq_false (by omega)
  have hd1 : decide (8 * (t.size : Int) < m) = false := decide_eq_false (by omega)
  go_enter Try.func30, Try.ntmps30
  go_wp2_with (at_make; refine wpList_make_full _ rfl (.tmp 21) (.tmp 21) 22 rfl w.heap.size 5 i0 (.int .u8 0) 1 Try.underlying22 hi hz0 hz1 .i64 .i64 _ _ m rfl rfl (by simp) (by simp) (by rw [hz2]; omega) (by unfold maxLen; omega) (Nat.le_refl _) ?_; intro w1 hown1 hgrow1; have HR := hideB (made_row hown1); have HB := hideB ((Below.refl w.heap.size w).grown hgrow1 (Nat.le_refl _) (by simp)); clear hown1 hgrow1)
  go_loopw [24] (fun i wr => ∃ k : Nat, i = .int .i64 k ∧ k ≤ m ∧ IsB wr w.heap.size 5 .u8 m (fun j => (opK t k j : Nat)) ∧ Below w.heap.size w wr) (fun i _ => m - (intOf i).toNat)
  case atStart => exact ⟨0, rfl, by omega, IsB.congr HR.out (fun j hj => by rw [opK_zero]; rfl), HB.out⟩
  case round =>
    obtain ⟨k, rfl, hk, hr, hbel⟩ := hrel
    have HR2 := hideB hr
    by_cases hlt : k < m
    · obtain ⟨q, hq⟩ : ∃ q : Nat, q = k / 8 := ⟨_, rfl⟩
      have hqi : (k : Int) / 8 = q := by omega
      have hqt : q < t.size := by omega
      obtain ⟨y, b0, hy⟩ := byte_at t q hqt
      obtain ⟨s, hs⟩ : ∃ s : Nat, s = 7 - k % 8 := ⟨_, rfl⟩
      have hsi : (7 : Int) - (k : Int) % 8 = s := by omega
      have ce := hr.cell (j := k) (by omega)
      have cf := hr.frozen k
      have hy2 : (y.toNat : Int) < 256 := by have := y.toNat_lt; omega
      have HO := hideB (bitOf_any y.toNat s wr (by omega))
      have HV : Hid (((bitB y.toNat s : Nat) : Int) = ((bitB (bt t (k / 8)) (7 - k % 8) : Nat) : Int)) := by
        unfold Hid
        rw [hy, hs, hq]
      clear hr hy hs hq
      go_wp2_with fail
      refine HO.out.mono ?_
      rintro e w' ⟨rfl, hw⟩
      subst w'
      go_wp2_with fail
      go_roundw
      case rel =>
        exact ⟨k + 1, by go_num, by omega, IsB.congr (HR2.out.set k _) (fun j hj => opK_next t k j _ HV.out), hbel.setCell (Nat.le_refl _) _⟩
      case measure => simp [intOf]; omega
    · obtain rfl : k = m := by omega
      have hcv := hr.str (P := Try.prog) (src := 22) (dst := 9) k k (Nat.le_refl _) (fun j _ => opK_lt t k j) Try.underlying22 Try.underlying5 Try.underlying9
      rw [opK_all] at hcv
      clear hr
      go_wp2_with fail
      go_ret
      exact ⟨rfl, hbel⟩

set_option maxHeartbeats 1000000 in
theorem open_impl (t : ByteArray) (m : Int) (w : World) (ht : t.size ≤ 1048576) :
    Calls Try.prog 30 #[.string t, .int .i64 m] w fun e w' => e = .returned (.string (openR t m)) ∧ Below w.heap.size w w' := by
  by_cases h : 8000 < t.size
  · have HE := hideB (openR_no t m (Or.inl h))
    go_enter Try.func30, Try.ntmps30
    go_wp2_with fail
    go_ret
    exact ⟨ret_strJ HE.out.symm, Below.refl _ _⟩
  · have hd8 : decide (8000 < (t.size : Int)) = false := decide_eq_false (by omega)
    by_cases h0 : m < 0
    · have HE := hideB (openR_no t m (Or.inr (Or.inl h0)))
      go_enter Try.func30, Try.ntmps30
      go_wp2_with fail
      go_ret
      exact ⟨ret_strJ HE.out.symm, Below.refl _ _⟩
    · by_cases h1 : 8 * (t.size : Int) < m
      · have HE := hideB (openR_no t m (Or.inr (Or.inr h1)))
        have hd0 : decide (m < 0) = false := decide_eq_false (by omega)
        go_enter Try.func30, Try.ntmps30
        go_wp2_with fail
        go_ret
        exact ⟨ret_strJ HE.out.symm, Below.refl _ _⟩
      · obtain ⟨k, rfl⟩ : ∃ k : Nat, m = k := ⟨m.toNat, by omega⟩
        rw [openR_yes t k h (by omega)]
        exact open_yes t k w h (by omega)

theorem lit8 (W : World) (t : TypeId) (r : Nat) (h : r < 8) : ∃ p : Int, (W.alloc (Obj.cells #[Value.int IntKind.i64 128, Value.int IntKind.i64 64, Value.int IntKind.i64 32, Value.int IntKind.i64 16, Value.int IntKind.i64 8, Value.int IntKind.i64 4, Value.int IntKind.i64 2, Value.int IntKind.i64 1] t)).cell? ⟨W.heap.size, r, none⟩ = some (.int .i64 p) ∧ p = (2 : Int) ^ (7 - r) ∧ 0 < p ∧ p ≤ 128 := by
  have h8 : r = 0 ∨ r = 1 ∨ r = 2 ∨ r = 3 ∨ r = 4 ∨ r = 5 ∨ r = 6 ∨ r = 7 := by omega
  rcases h8 with rfl | rfl | rfl | rfl | rfl | rfl | rfl | rfl
  · exact ⟨128, (cell_of_row _ _ 0 _ t (0, 0) (heap_alloc_last W _)).trans rfl, by decide, by decide⟩
  · exact ⟨64, (cell_of_row _ _ 1 _ t (0, 0) (heap_alloc_last W _)).trans rfl, by decide, by decide⟩
  · exact ⟨32, (cell_of_row _ _ 2 _ t (0, 0) (heap_alloc_last W _)).trans rfl, by decide, by decide⟩
  · exact ⟨16, (cell_of_row _ _ 3 _ t (0, 0) (heap_alloc_last W _)).trans rfl, by decide, by decide⟩
  · exact ⟨8, (cell_of_row _ _ 4 _ t (0, 0) (heap_alloc_last W _)).trans rfl, by decide, by decide⟩
  · exact ⟨4, (cell_of_row _ _ 5 _ t (0, 0) (heap_alloc_last W _)).trans rfl, by decide, by decide⟩
  · exact ⟨2, (cell_of_row _ _ 6 _ t (0, 0) (heap_alloc_last W _)).trans rfl, by decide, by decide⟩
  · exact ⟨1, (cell_of_row _ _ 7 _ t (0, 0) (heap_alloc_last W _)).trans rfl, by decide, by decide⟩
theorem quo_pow (y s : Nat) (v : Int) (hv : v = (2 : Int) ^ s) : (48 + (y : Int) / v % 2) % 256 = ((bitB y s : Nat) : Int) := by
  subst hv
  rw [div_cast]
  unfold bitB
  omega

set_option maxRecDepth 100000 in
set_option maxHeartbeats 4000000 in
theorem openS_yes (t : ByteArray) (m : Nat) (w : World) (ht : ¬ 8000 < t.size) (hm : m ≤ 8 * t.size) :
    Calls Try.prog 31 #[.string t, .int .i64 m] w fun e w' => e = .returned (.string (openV t m)) ∧ Below w.heap.size w w' := by
  obtain ⟨i0, hi, hz0, hz1, hz2⟩ := info_parts Nu.Try.infoJ5
  have hd8 : decide (8000 < (t.size : Int)) = false := decide_eq_false (by omega)
  have HI := hideB (is_yes m 0 (8 * (t.size : Int)) w (by omega) (by omega))
  go_enter Try.func31, Try.ntmps31
  go_wp2_with fail
  refine HI.out.mono ?_
  rintro e w' ⟨rfl, hw⟩
  subst w'
  go_wp2_with (at_make; refine wpList_make_full _ rfl (.tmp 19) (.tmp 19) 22 rfl w.heap.size 5 i0 (.int .u8 0) 1 Try.underlying22 hi hz0 hz1 .i64 .i64 _ _ m rfl rfl (by simp) (by simp) (by rw [hz2]; omega) (by unfold maxLen; omega) (Nat.le_refl _) ?_; intro w1 hown1 hgrow1; have HR := hideB (made_row hown1); have HB := hideB ((Below.refl w.heap.size w).grown hgrow1 (Nat.le_refl _) (by simp)); clear hown1 hgrow1)
  go_loopw [6] (fun i wr => ∃ k : Nat, i = .int .i64 k ∧ k ≤ m ∧ IsB wr w.heap.size 5 .u8 m (fun j => (opK t k j : Nat)) ∧ Below w.heap.size w wr) (fun i _ => m - (intOf i).toNat)
  case atStart => exact ⟨0, rfl, by omega, IsB.congr HR.out (fun j hj => by rw [opK_zero]; rfl), HB.out⟩
  case round =>
    obtain ⟨k, rfl, hk, hr, hbel⟩ := hrel
    have HR2 := hideB hr
    have GB := hideB hbel
    have hsz := hbel.size
    clear hbel
    by_cases hlt : k < m
    · obtain ⟨q, hq⟩ : ∃ q : Nat, q = k / 8 := ⟨_, rfl⟩
      have hqi : (k : Int) / 8 = q := by omega
      have hqt : q < t.size := by omega
      obtain ⟨y, b0, hy⟩ := byte_at t q hqt
      have HY := hideB hy
      have HQ := hideB hq
      have ce : ∀ o, (wr.alloc o).cell? ⟨w.heap.size, k, none⟩ = some (.int .u8 ((opK t k k : Nat) : Int)) := fun o => (hr.alloc o).cell (by omega)
      have cf : ∀ o, (wr.alloc o).frozen? ⟨w.heap.size, k, none⟩ = false := fun o => (hr.alloc o).frozen k
      clear hr hy hq
      have hy2 : (y.toNat : Int) < 256 := by have := y.toNat_lt; omega
      obtain ⟨r, hr8⟩ : ∃ r : Nat, r = k % 8 := ⟨_, rfl⟩
      have hri : (k : Int) % 8 = r := by omega
      have hrl : r < 8 := by omega
      obtain ⟨p, hp, hp2, hp3⟩ := lit8 wr 2 r hrl
      have HV : Hid ((48 + (y.toNat : Int) / p % 2) % 256 = ((bitB (bt t (k / 8)) (7 - k % 8) : Nat) : Int)) := by
        unfold Hid
        rw [quo_pow y.toNat (7 - r) p hp2, ← hr8, HY.out, HQ.out]
      have HV2 : Hid (48 + (y.toNat : Int) / p % 2 = ((bitB (bt t (k / 8)) (7 - k % 8) : Nat) : Int)) := by
        unfold Hid
        rw [← HV.out]
        omega
      have hpz : (p == 0) = false := by rw [beq_eq_false_iff_ne]; omega
      have hq0 : 0 ≤ (y.toNat : Int) / p := Int.ediv_nonneg (by omega) (by omega)
      have hq1 : (y.toNat : Int) / p < 256 := Int.lt_of_le_of_lt (Int.ediv_le_self _ (by omega)) hy2
      clear hp2 hr8
      go_wp2_with fail
      go_region
      all_goals (try go_wp2_with fail)
      all_goals go_roundw
      case rel => exact ⟨k + 1, by go_num, by omega, IsB.congr (IsB.set (IsB.of_heap (w' := World.drew (World.alloc wr _)) (IsB.alloc HR2.out _) rfl) k _) (fun j hj => opK_next t k j _ (by first | exact HV.out | exact HV2.out)), Below.setCell (Below.drew (GB.out.alloc hsz _)) (Nat.le_refl _) _⟩
      case measure => simp [intOf]; omega
    · obtain rfl : k = m := by omega
      have hcv := hr.str (P := Try.prog) (src := 22) (dst := 9) k k (Nat.le_refl _) (fun j _ => opK_lt t k j) Try.underlying22 Try.underlying5 Try.underlying9
      rw [opK_all] at hcv
      clear hr
      go_wp2_with fail
      go_ret
      exact ⟨rfl, GB.out⟩

set_option maxHeartbeats 1000000 in
theorem open_spec (t : ByteArray) (m : Int) (w : World) (ht : t.size ≤ 1048576) :
    Calls Try.prog 31 #[.string t, .int .i64 m] w fun e w' => e = .returned (.string (openR t m)) ∧ Below w.heap.size w w' := by
  by_cases h : 8000 < t.size
  · have HE := hideB (openR_no t m (Or.inl h))
    go_enter Try.func31, Try.ntmps31
    go_wp2_with fail
    go_ret
    exact ⟨ret_strJ HE.out.symm, Below.refl _ _⟩
  · have hd8 : decide (8000 < (t.size : Int)) = false := decide_eq_false (by omega)
    by_cases h0 : m < 0 ∨ 8 * (t.size : Int) < m
    · have HE := hideB (openR_no t m (Or.inr h0))
      have HI := hideB (is_no m 0 (8 * (t.size : Int)) w h0)
      clear h0
      go_enter Try.func31, Try.ntmps31
      go_wp2_with fail
      refine HI.out.mono ?_
      rintro e w' ⟨rfl, hw⟩
      subst w'
      go_wp2_with fail
      go_ret
      exact ⟨ret_strJ HE.out.symm, Below.refl _ _⟩
    · obtain ⟨k, rfl⟩ : ∃ k : Nat, m = k := ⟨m.toNat, by omega⟩
      rw [openR_yes t k h (by omega)]
      exact openS_yes t k w h (by omega)
end Go.Proofs.Ytmkpakhpjgocjaa.Bi
