/- Texts put together: PutSpec, PackSpec, OrdSpec, FrontBS, BwtSpec. -/
import Derived.Test.YtjdlgpnhkfdehaaGreatDoorLo41
import Derived.Test.YtjdlgpnhkfdehaaGreatDoorLo30
import Derived.Test.YtjdlgpnhkfdehaaGreatDoorLo38
import Derived.Test.YtjdlgpnhkfdehaaGreatDoorLo39
import Derived.Test.YtjdlgpnhkfdehaaGreatDoorLo26
/- The walks of the specification's CodePut, and of the law. -/
namespace Go.Proofs.YtjdlgpnhkfdehaaGreatDoor.Bi
open Go.RowKit
open Go.Proofs.YtjdlgpnhkfdehaaGreatDoor.In (Ints)
open Go.Proofs.YtjdlgpnhkfdehaaGreatDoor.St (IsS)
open Go.Proofs.YtjdlgpnhkfdehaaGreatDoor.Nu (ret_strJ own_string bv)
theorem own_lenB {w : World} {B m n : Nat} {e : TypeId} {v : Value} {xs : List Value} (h : w.ownsRow B e 1 v m xs) (hm : m = n) : w.ownsRow B e 1 v n xs := by rw [← hm]; exact h
set_option maxRecDepth 100000 in
set_option maxHeartbeats 4000000 in
theorem l04Put_any (l s : List Int) (a a' : Option Addr) (cap cap' : Nat) (w : World) (hl : Ints w w.heap.size a l) (hs : Ints w w.heap.size a' s) (hm : ¬ 400 < s.length) (hw : whole l = true) (hok : ∀ x ∈ s, okS l x) :
    Calls Tryz.prog 174 #[.slice a l.length cap, .slice a' s.length cap'] w fun e w' => e = .returned (.string ⟨(putL l s).toArray⟩) ∧ Below w.heap.size w w' := by
  obtain ⟨i0, hi0, hz0, hz1, hz2⟩ := info_parts Sb.builderX.infoByte
  have HC := hideB (codes_spec l a cap w.heap.size w hl (Nat.le_refl _) (whole_right hw))
  have HS := hideB hs
  have HK := hideB (whole_ok hw)
  have hn := whole_len hw
  have HCL := hideB (codesV_length l)
  have HOK := hideB (fun (j : Nat) (hj : j < s.length) => hok _ (List.getElem_mem hj))
  clear hl hs hw hok
  obtain ⟨n, hln⟩ : ∃ n, n = l.length := ⟨_, rfl⟩
  obtain ⟨m, hms⟩ : ∃ m, m = s.length := ⟨_, rfl⟩
  have HLN := hideB hln
  have HMS := hideB hms
  rw [← hln] at hn HC HCL ⊢
  rw [← hms] at hm ⊢
  clear hln hms
  go_enter Tryz.func174, Tryz.ntmps174
  go_wp2_with fail
  refine HC.out.mono ?_
  rintro e w1 ⟨rfl, hi1, hb1⟩
  have X1 := hideB hi1
  have B1 := hideB hb1
  have z1 : w.heap.size < w1.heap.size := hi1.lt
  clear hi1 hb1
  go_wp2_with fail
  go_loopw [7, 6] (fun i v wr => ∃ k : Nat, i = .int .i64 k ∧ k ≤ m ∧ wr.ownsRow w1.heap.size 5 1 v (putL l (s.take k)).length (Lib.byteCells (putL l (s.take k))) ∧ Below w1.heap.size w1 wr) (fun i _ _ => m - (intOf i).toNat)
  case atStart => exact ⟨0, rfl, Nat.zero_le _, World.ownsRow_made _ _ _ (Nat.le_refl _) (by decide) rfl, (Below.refl _ _).alloc (Nat.le_refl _) _⟩
  case round =>
    obtain ⟨k, rfl, hk, hown, hbel⟩ := hrel
    have HO := hideB hown
    have GB := hideB hbel
    have hbz := hbel.size
    clear hown hbel
    by_cases hlt : k < m
    · have hkl : k < s.length := by rw [← HMS.out]; exact hlt
      obtain ⟨b, off, rfl, hb, hc⟩ := (HS.out.below (B1.out.trans (GB.out.mono (Nat.le_of_lt z1)))).some (by omega)
      have ci := hc k hkl
      have HM := hideB (putL_more (l := l) hkl)
      have ho := HOK.out k hkl
      obtain ⟨x, hx⟩ : ∃ x, x = s[k] := ⟨_, rfl⟩
      rw [← hx] at ci HM ho
      clear hc hx
      obtain ⟨i, rfl⟩ : ∃ i : Nat, x = i := ⟨x.toNat, by have := ho.1; omega⟩
      have hin : i < n := by have h1 := ho.2.1; have h2 := HLN.out; omega
      have hiv : i < (codesV l).length := by rw [HCL.out]; omega
      have cc := (X1.out.below GB.out z1).cell hiv
      rw [codes_get l HK.out i hiv] at cc
      have hcl := codeOf_le l HK.out i
      obtain ⟨c, hcc⟩ : ∃ c, c = codeOf l i := ⟨_, rfl⟩
      have HCC := hideB hcc
      rw [← hcc] at cc hcl
      clear hcc ho
      obtain ⟨q, hq⟩ : ∃ q, q = (putL l (s.take k)).length := ⟨_, rfl⟩
      have hqb : q ≤ 4800 := by
        have h1 := putL_le l HK.out (s.take k)
        rw [List.length_take] at h1
        omega
      have HNX : Hid (Lib.byteCells (putL l (s.take k)) ++ Lib.strCells c = Lib.byteCells (putL l (s.take (k + 1)))) := by
        unfold Hid
        rw [HM.out, Lib.byteCells_append, Lib.strCells_eq, HCC.out]
        rfl
      have HNL : Hid (q + c.size = (putL l (s.take (k + 1))).length) := by
        unfold Hid
        rw [HM.out, List.length_append, hq, HCC.out]
        rfl
      have hown := HO.out
      rw [← hq] at hown
      clear hq
      go_wp2_with (at_builtin; refine Lib.wpList_append_own_string _ rfl _ _ 22 9 rfl w1.heap.size 5 i0 Tryz.underlying22 Tryz.underlying9 hi0 hz0 hz1 hz2 _ _ _ rfl hown c rfl ?c3 ?c4 ?c5 ?_)
      case c3 => unfold maxLen; omega
      case c4 => omega
      case c5 => omega
      intro v' w2 hown' hgrow _
      rw [HNX.out] at hown'
      have R2 := hideB (own_lenB hown' HNL.out)
      have B2 := hideB (GB.out.grown hgrow (by omega) (fun k hk => (hown.lt k hk).1))
      clear hown' hgrow hown
      go_wp2_with fail
      go_roundw
      case rel => exact ⟨k + 1, by go_num, by omega, R2.out, B2.out⟩
      case measure => simp [intOf]; omega
    · have HE : Hid (putL l (s.take k) = putL l s) := by
        unfold Hid
        rw [List.take_of_length_le (by have := HMS.out; omega)]
      have hcv := own_string (P := Tryz.prog) (src := 22) (dst := 9) (putL l (s.take k)) HO.out Tryz.underlying22 Tryz.underlying5 Tryz.underlying9
      rw [HE.out] at hcv
      go_wp2_with fail
      go_ret
      exact ⟨rfl, B1.out.trans (GB.out.mono (Nat.le_of_lt z1))⟩
end Go.Proofs.YtjdlgpnhkfdehaaGreatDoor.Bi


/- The walk of the specification's BitsPack, and of the law. -/
namespace Go.Proofs.YtjdlgpnhkfdehaaGreatDoor.Bi
open Go.RowKit
open Go.Proofs.YtjdlgpnhkfdehaaGreatDoor.Sh
open Go.Proofs.YtjdlgpnhkfdehaaGreatDoor.Nu (ret_strJ bv own_string app_below)
def pkL (t : ByteArray) (q : Nat) : List UInt8 := (List.range q).map fun j => UInt8.ofNat (pk t j 8)
theorem pkL_length (t : ByteArray) (q : Nat) : (pkL t q).length = q := by simp [pkL]
theorem pkL_next (t : ByteArray) (q : Nat) : pkL t (q + 1) = pkL t q ++ [UInt8.ofNat (pk t q 8)] := by simp [pkL, List.range_succ]
theorem pkL_all (t : ByteArray) : (⟨(pkL t ((t.size + 7) / 8)).toArray⟩ : ByteArray) = packV t := rfl
theorem pkL_row {w : World} {B q : Nat} {e : TypeId} {v : Value} {t : ByteArray} {h : Nat} (hh : h = pk t q 8) (hr : w.ownsRow B e 1 v (q + 1) ((pkL t q).map bv ++ [.int .u8 (h : Int)])) :
    w.ownsRow B e 1 v (q + 1) ((pkL t (q + 1)).map bv) := by
  rw [pkL_next, List.map_append, List.map_singleton]
  have : bv (UInt8.ofNat (pk t q 8)) = .int .u8 (h : Int) := by
    have := pk_lt t q 8 (Nat.le_refl _)
    unfold bv
    rw [UInt8.toNat_ofNat', Nat.mod_eq_of_lt (by omega), hh]
  rw [this]
  exact hr
theorem own_len {w : World} {B m n : Nat} {e : TypeId} {v : Value} {xs : List Value} (h : w.ownsRow B e 1 v m xs) (hm : m = n) : w.ownsRow B e 1 v n xs := by rw [← hm]; exact h
set_option maxRecDepth 100000 in
set_option maxHeartbeats 2000000 in
theorem packS_yes (t : ByteArray) (w : World) (ht : ¬ 8000 < t.size) (hg : good t = true) :
    Calls Tryz.prog 175 #[.string t] w fun e w' => e = .returned (.string (packV t)) ∧ Below w.heap.size w w' := by
  obtain ⟨i0, hi, hz0, hz1, hz2⟩ := info_parts Nu.Tryz.infoJ5
  have HG := hideB (good_spec t w (by omega))
  rw [hg] at HG
  have HA := hideB (good_yes hg)
  have hd8 : decide (8000 < (t.size : Int)) = false := decide_eq_false (by omega)
  clear hg
  go_enter Tryz.func175, Tryz.ntmps175
  go_wp2_with fail
  refine HG.out.mono ?_
  rintro e w' ⟨rfl, hw⟩
  subst w'
  go_wp2_with fail
  go_loopw [4, 3] (fun i v wr => ∃ q : Nat, i = .int .i64 (8 * (q : Int)) ∧ 8 * q ≤ t.size + 7 ∧ wr.ownsRow w.heap.size 5 1 v q ((pkL t q).map bv) ∧ Below w.heap.size w wr) (fun i _ _ => t.size + 8 - (intOf i).toNat)
  case atStart => exact ⟨0, rfl, by omega, World.ownsRow_made _ _ _ (Nat.le_refl _) (by decide) rfl, (Below.refl _ _).alloc (Nat.le_refl _) _⟩
  case round =>
    obtain ⟨q, rfl, hq, hown, hbel⟩ := hrel
    have HO := hideB hown
    have GB := hideB hbel
    clear hown hbel
    by_cases hlt : 8 * q < t.size
    · have hlt' : 8 * (q : Int) < t.size := by omega
      go_wp2_with fail
      go_loopw [6, 5] (fun i v wr2 => ∃ r h : Nat, i = .int .i64 (8 * (q : Int) + r) ∧ v = .int .i64 h ∧ h = hd t q r ∧ r ≤ 8 ∧ wr2 = wr) (fun i _ _ => 8 * q + 8 - (intOf i).toNat)
      case atStart => exact ⟨0, 0, by go_num, rfl, rfl, by omega, rfl⟩
      case round =>
        obtain ⟨r, h, rfl, rfl, hh, hr, hw⟩ := hrel
        subst hw
        have HH := hideB hh
        have hle : h < 256 := by rw [hh]; exact hd_le t q r hr
        clear hh
        by_cases hr8 : r < 8
        · by_cases hin : 8 * q + r < t.size
          · obtain ⟨i, hii⟩ : ∃ i : Nat, i = 8 * q + r := ⟨_, rfl⟩
            have hiz : 8 * (q : Int) + r = i := by omega
            have hib : i < t.size := by omega
            obtain ⟨y, b0, hy⟩ := byte_at t i hib
            have h01 := HA.out i (by omega)
            rw [← hy] at h01
            have h02 : (48 : Int) ≤ y.toNat ∧ (y.toNat : Int) ≤ 49 := by omega
            have HN : Hid (2 * (h : Int) + ((y.toNat : Int) - 48) = ((hd t q (r + 1) : Nat) : Int)) := by
              unfold Hid
              simp only [hd]
              rw [← HH.out, ← hii]
              unfold one
              by_cases e : bt t i = 49
              · rw [if_pos ⟨by omega, e⟩]
                omega
              · rw [if_neg (fun x => e x.2)]
                omega
            have HI := hideB hii
            clear hy h01 hii
            rw [hiz]
            have hi8 : (i : Int) < 8 * (q : Int) + 8 := by omega
            have hit : (i : Int) < t.size := by omega
            go_wp2_with fail
            go_roundw
            case rel => exact ⟨r + 1, hd t q (r + 1), by go_num, by rw [← HN.out], rfl, by omega, trivial⟩
            case measure => simp [intOf]; omega
          · have HN : Hid (2 * (h : Int) = ((hd t q (r + 1) : Nat) : Int)) := by
              unfold Hid
              simp only [hd]
              rw [← HH.out, one_behind t _ (by omega)]
              omega
            have hit : ¬ 8 * (q : Int) + r < t.size := by omega
            go_wp2_with fail
            go_roundw
            case rel => exact ⟨r + 1, hd t q (r + 1), by go_num, by rw [← HN.out], rfl, by omega, trivial⟩
            case measure => simp [intOf]; omega
        · have HE : Hid (h = pk t q 8) := by
            unfold Hid
            rw [HH.out, show r = 8 by omega, hd_all]
          have hge : ¬ 8 * (q : Int) + r < 8 * (q : Int) + 8 := by omega
          have hown := HO.out
          have hbz := GB.out.size
          go_wp2_with (at_builtin; refine wpList_append_own _ rfl (.tmp 42) (.tmp 45) 22 rfl w.heap.size 5 i0 (.int .u8 0) 1 1 Tryz.underlying22 hi hz0 hz1 hz2 rfl (by decide) _ _ _ rfl (hown.alloc _) ⟨wr.heap.size, 0, none⟩ 1 1 [.int .u8 (h : Int)] rfl rfl ?c1 ?c2 ?c3 ?c4 ?c5 ?_)
          case c2 => rfl
          case c3 => unfold maxLen; omega
          case c4 => omega
          case c5 => omega
          intro v' w1 hown' hgrow _
          have H1 := hideB (app_below GB.out (Nat.le_refl _) HO.out hgrow)
          have R1 := hideB (pkL_row HE.out hown')
          clear hown' hgrow hown
          go_wp2_with fail
          go_roundw
          case rel => exact ⟨q + 1, by go_num, by omega, R1.out, H1.out⟩
          case measure => simp [intOf]; omega
    · have hlt' : ¬ 8 * (q : Int) < t.size := by omega
      have HQ : Hid (q = (t.size + 7) / 8) := by
        unfold Hid
        omega
      have hcv := own_string (P := Tryz.prog) (src := 22) (dst := 9) (pkL t q) (own_len HO.out (pkL_length t q).symm) Tryz.underlying22 Tryz.underlying5 Tryz.underlying9
      have HE : Hid ((⟨(pkL t q).toArray⟩ : ByteArray) = packV t) := by
        unfold Hid
        rw [HQ.out]
        exact pkL_all t
      rw [HE.out] at hcv
      go_wp2_with fail
      go_ret
      exact ⟨rfl, GB.out⟩
set_option maxHeartbeats 1000000 in
theorem pack_spec (t : ByteArray) (w : World) (ht : t.size ≤ 1048576) :
    Calls Tryz.prog 175 #[.string t] w fun e w' => e = .returned (.string (packR t)) ∧ Below w.heap.size w w' := by
  by_cases h : 8000 < t.size
  · have HE := hideB (packR_no t (Or.inl h))
    go_enter Tryz.func175, Tryz.ntmps175
    go_wp2_with fail
    go_ret
    exact ⟨ret_strJ HE.out.symm, Below.refl _ _⟩
  · cases hg : good t with
    | false =>
      have HE := hideB (packR_no t (Or.inr hg))
      have HG := hideB (good_spec t w (by omega))
      rw [hg] at HG
      go_enter Tryz.func175, Tryz.ntmps175
      go_wp2_with fail
      refine HG.out.mono ?_
      rintro e w' ⟨rfl, hw⟩
      subst w'
      go_wp2_with fail
      go_ret
      exact ⟨ret_strJ HE.out.symm, Below.refl _ _⟩
    | true =>
      rw [packR_yes t h hg]
      exact packS_yes t w h hg
end Go.Proofs.YtjdlgpnhkfdehaaGreatDoor.Bi


/- What the specification's OrderOf answers. -/
namespace Go.Proofs.YtjdlgpnhkfdehaaGreatDoor.So
open Go.RowKit
open Go.Proofs.YtjdlgpnhkfdehaaGreatDoor.In (OwnI IsO one_newI one_cellI)
open Go.Proofs.YtjdlgpnhkfdehaaGreatDoor.In.Tryz (infoI2)
open Go.Proofs.YtjdlgpnhkfdehaaGreatDoor.Ze (own_some own_news own_cells)
set_option maxHeartbeats 1000000 in
theorem turn_spec (t : ByteArray) (k : Nat) (w : World) (ht : t.size ≤ 1048576) (hk : k ≤ t.size) :
    Calls Tryz.prog 246 #[.string t, .int .i64 k] w fun e w' => e = .returned (.string (turnV t k)) ∧ ∃ q, w' = w.drewN q := by
  have mixed := mixed
  unfold turnV
  have hq0 : (t.extract k t.size).size + (t.extract 0 k).size ≤ 9223372036854775807 := by simp; omega
  have hle : (k : Int) ≤ (t.size : Int) := by omega
  have hge : ¬ (t.size : Int) < (k : Int) := by omega
  go_enter Tryz.func246, Tryz.ntmps246
  go_wp2_with fail
  go_quiet (fail)
  go_wp2_with fail
  go_ret
  exact ⟨rfl, nq, rfl⟩
theorem below_drewN {B : Nat} {w w' : World} (h : Below B w w') (n : Nat) : Below B w (w'.drewN n) := ⟨h.os, h.tape, h.output, h.size, h.block⟩
theorem own_drewN {w : World} {base : Nat} {v : Value} {l : List Int} (h : OwnI w base v l) (n : Nat) : OwnI (w.drewN n) base v l :=
  h.below (below_drewN (Below.refl _ _) n)
theorem isO_take {w : World} {g : Nat} {l : List Nat} (h : IsO w g 2 (ints l)) (p : Nat) : IsO w g 2 (ints (l.take p)) := by
  obtain ⟨cur, hb, hc⟩ := h
  refine ⟨cur, hb, fun j hj => ?_⟩
  have hj2 : j < min p l.length := by simpa [ints] using hj
  have hj' : j < p ∧ j < l.length := by omega
  have := hc j (by rw [ints_len]; exact hj'.2)
  simpa [ints] using this
theorem isO_drop {w : World} {g : Nat} {l : List Nat} (h : IsO w g 2 (ints l)) (p : Nat) : ∀ (j : Nat) (u : Value), ((ints (l.drop p)).map (Value.int .i64))[j]? = some u → w.cell? ((⟨g, p, none⟩ : Addr).add j) = some u := by
  intro j u hj
  have hadd : (⟨g, p, none⟩ : Addr).add j = ⟨g, p + j, none⟩ := by unfold Addr.add; split <;> simp_all
  rw [hadd]
  simp only [ints, List.getElem?_map, List.getElem?_drop] at hj
  cases hl : l[p + j]? with
  | none => rw [hl] at hj; cases hj
  | some x =>
    rw [hl] at hj
    obtain ⟨hlt, hx⟩ := List.getElem?_eq_some_iff.1 hl
    rw [h.cell (j := p + j) (by rw [ints_len]; exact hlt)]
    simp [ints, hx] at hj ⊢
    exact hj
theorem own_ne {w : World} {base : Nat} {v : Value} {l : List Int} (h : OwnI w base v l) (hl : 0 < l.length) : v ≠ .slice none 0 0 := by
  rcases h.split with ⟨_, rfl⟩ | ⟨g, cap, rfl, _⟩
  · simp at hl
  · simp
set_option maxRecDepth 100000 in
set_option maxHeartbeats 2000000 in
theorem order_spec (t : ByteArray) (w : World) (ht : t.size ≤ 48) :
    Calls Tryz.prog 218 #[.string t] w fun e w' => ∃ v l, e = .returned v ∧ OwnI w' w.heap.size v (ints l) ∧ OrdOk t l ∧ v ≠ .slice none 0 0 ∧ Below w.heap.size w w' := by
  have mixed := mixed
  obtain ⟨i0, hi0, hz0, hz1, hz2⟩ := info_parts infoI2
  have HW := hideO (Ze.OwnI.empty w)
  have HT := hideO (fun (k : Nat) (W : World) (hk : k ≤ t.size) => turn_spec t k W (by omega) hk)
  have htz : (t.size : Int) ≤ 48 := by omega
  go_enter Tryz.func218, Tryz.ntmps218
  go_wp2_with fail
  go_loopw [4, 3] (fun i u wr => ∃ (k : Nat) (l : List Nat), i = .int .i64 k ∧ k ≤ t.size ∧ l.Perm (List.range k) ∧ l.Pairwise (lx (clT (turnV t))) ∧ OwnI wr w.heap.size u (ints l) ∧ u ≠ .slice none 0 0 ∧ Below w.heap.size w wr) (fun i _ _ => t.size - (intOf i).toNat)
  case atStart => exact ⟨0, [], rfl, Nat.zero_le _, List.Perm.refl _, List.Pairwise.nil, HW.out, by simp, (Below.refl _ _).alloc (Nat.le_refl _) _⟩
  case round =>
    obtain ⟨k, l, rfl, hk, hp, hs, hown, hne, hbel⟩ := hrel
    have HP := hideO hp
    have HS := hideO hs
    have GB := hideO hbel
    have hsz := hbel.size
    have hlk : l.length = k := by have := hp.length_eq; simpa using this
    have HL := hideO hlk
    have G1 := hideO hown
    obtain ⟨g, cap, rfl, hg, hgl, ho⟩ := own_some hown hne
    rw [ints_len, hlk] at G1 ⊢
    have HO := hideO ho
    have hcap : k ≤ cap := by
      obtain ⟨_, h⟩ := hown
      rcases h with ⟨h, _⟩ | ⟨g', cap', cur, hv, _, _, hle, _⟩
      · cases h
      · simp at hv
        rw [ints_len, hlk] at hle
        omega
    have hcm : cap ≤ maxLen := by
      obtain ⟨_, h⟩ := hown
      rcases h with ⟨h, _⟩ | ⟨g', cap', cur, hv, _, _, _, hle, _⟩
      · cases h
      · simp at hv
        omega
    clear hown hne hbel hp hs ho hlk
    by_cases hlt : k < t.size
    · have hlt' : (k : Int) < (t.size : Int) := by omega
      obtain ⟨wo, hwo⟩ : ∃ wo, wo = wr := ⟨_, rfl⟩
      subst hwo
      go_wp2_with fail
      go_loopw [5] (fun i wr2 => ∃ (p q : Nat), i = .int .i64 p ∧ p ≤ k ∧ (∀ j (h : j < l.length), p ≤ j → clT (turnV t) k l[j] = true) ∧ wr2 = wo.drewN q) (fun i _ => (intOf i).toNat)
      case atStart => exact ⟨k, 0, rfl, Nat.le_refl _, fun j h1 h2 => absurd h1 (by have := HL.out; omega), rfl⟩
      case round =>
        obtain ⟨p, q, rfl, hpk, hhi, hwr⟩ := hrel
        have HHI := hideO hhi
        have HWR := hideO hwr
        have hO2 : IsO wr g 2 (ints l) := by rw [hwr]; exact HO.out.of_heap rfl
        clear hhi hwr
        by_cases hp0 : 0 < p
        · obtain ⟨pp, hpp⟩ : ∃ pp, p = pp + 1 := ⟨p - 1, by omega⟩
          have hppl : pp < l.length := by have := HL.out; omega
          have c0 := hO2.cell (j := pp) (by rw [ints_len]; exact hppl)
          have ey : (ints l)[pp]'(by rw [ints_len]; exact hppl) = ((l[pp] : Nat) : Int) := by simp [ints]
          rw [ey] at c0
          have hyk : l[pp] < k := by
            have := HP.out.mem_iff.1 (List.getElem_mem hppl)
            simpa using this
          obtain ⟨y, hy⟩ : ∃ y, y = l[pp] := ⟨_, rfl⟩
          rw [← hy] at c0 hyk
          have c1 := fun n' => (show (wr.drewN n').cell? ⟨g, pp, none⟩ = some (.int .i64 (y : Nat)) from c0)
          have HTK := hideO (fun W => HT.out k W (by omega))
          have HTY := hideO (fun W => HT.out y W (by omega))
          have HCL : Hid (Op.bytesLess (turnV t k).toList (turnV t y).toList = clT (turnV t) k y) := rfl
          have e1 : (p : Int) - 1 = (pp : Int) := by omega
          have hwp : IntKind.i64.wrap (pp : Int) = (pp : Int) := by rw [IntKind.wrap_i64]; omega
          have hpz : (pp : Int) < (k : Int) := by omega
          have hp0' : (0 : Int) < (p : Int) := by omega
          have hpd : decide ((0 : Int) < (p : Int)) = true := decide_eq_true hp0'
          have HPP := hideO hpp
          have HY := hideO hy
          generalize turnV t k = A at HTK HCL
          generalize turnV t y = B at HTY HCL
          clear c0 ey hpp hy hO2
          cases hcb : clT (turnV t) k y with
          | true =>
            have hbl : Op.bytesLess A.toList B.toList = true := HCL.out.trans hcb
            have HC2 : Hid (∀ j (h : j < l.length), pp ≤ j → clT (turnV t) k l[j] = true) := fun j h1 h2 => by
              rcases Nat.eq_or_lt_of_le h2 with e | e
              · subst e
                rw [← HY.out]
                exact hcb
              · exact HHI.out j h1 (by have := HPP.out; omega)
            go_wp2_with fail
            go_quiet (first | (go_at_call 246; (with_reducible refine Calls.quiet_of (HTK.out _))) | (go_at_call 246; (with_reducible refine Calls.quiet_of (HTY.out _))))
            all_goals (try go_wp2_with fail)
            go_roundw
            case rel => exact ⟨pp, q + nq, rfl, by omega, HC2.out, by rw [HWR.out]; exact World.drewN_drewN _ _ _⟩
            case measure => have := HPP.out; simp [intOf]; omega
          | false =>
            have hbl : Op.bytesLess A.toList B.toList = false := HCL.out.trans hcb
            go_wp2_with fail
            go_quiet (first | (go_at_call 246; (with_reducible refine Calls.quiet_of (HTK.out _))) | (go_at_call 246; (with_reducible refine Calls.quiet_of (HTY.out _))))
            have HQ := hideO (ord_put (clT_weak (turnV t)) HP.out HS.out (show p ≤ l.length by have := HL.out; omega) HHI.out (by
              have := HPP.out
              exact Or.inr ⟨by omega, by
                have e : l[p - 1]'(by omega) = y := by rw [HY.out]; congr 1; omega
                rw [e]
                exact hcb⟩))
            have G4 := hideO (own_drewN G1.out (q + nq))
            have O4 : Hid (IsO (wo.drewN (q + nq)) g 2 (ints l)) := HO.out.of_heap rfl
            have B4 := hideO (below_drewN GB.out (q + nq))
            have hW : wr.drewN nq = wo.drewN (q + nq) := by rw [HWR.out]; exact World.drewN_drewN _ _ _
            have z4 : g < (wo.drewN (q + nq)).heap.size := hgl
            have zs4 : w.heap.size ≤ (wo.drewN (q + nq)).heap.size := hsz
            rw [hW]
            clear hW
            generalize wo.drewN (q + nq) = W at G4 O4 B4 z4 zs4 ⊢
            have HEM := hideO (Ze.OwnI.empty W)
            have HTA : Hid ((ints l).length = k) := by
              unfold Hid
              rw [ints_len, HL.out]
            have hpc : (p : Int) ≤ (cap : Int) := by omega
            have hpk' : (p : Int) ≤ (k : Int) := by omega
            go_wp2_with (at_builtin; refine wpList_append_own _ rfl (.tmp 33) (.tmp 36) 97 rfl W.heap.size 2 i0 (.int .i64 0) 1 8 Tryz.underlying97 hi0 hz0 hz1 hz2 rfl (by decide) _ 0 [] rfl HEM.out ⟨g, 0, none⟩ p cap ((ints (l.take p)).map (Value.int .i64)) rfl ?len1 ?new1 (own_cells _) (by unfold maxLen; omega) (by omega) (by simp) ?_)
            case len1 => simp [ints_len]; have := HL.out; omega
            case new1 => exact own_news (isO_take (O4.out.below ((Below.refl _ W).alloc (Nat.le_refl _) _) z4) p)
            intro v1 w1 hown1 hgrow1 _
            have HO1 : Hid (OwnI w1 W.heap.size v1 (ints (l.take p))) := by
              have e : (ints (l.take p)).length = p := by simp [ints_len]; have := HL.out; omega
              unfold Hid OwnI
              rw [e]
              exact hown1
            have hb1 : Below W.heap.size W w1 := ((Below.refl W.heap.size W).alloc (Nat.le_refl _) _).grown hgrow1 (by simp) (fun k hk => by simp [Value.ownBlock] at hk; omega)
            have z1 := hb1.size
            have O1 := hideO (O4.out.below hb1 z4)
            have B1 := hideO hb1
            clear hown1 hgrow1 hb1
            have HLT : Hid ((ints (l.take p)).length = p) := by
              unfold Hid
              simp [ints_len]
              have := HL.out
              omega
            go_wp2_with (at_builtin; refine wpList_append_own _ rfl (.tmp 38) (.tmp 40) 97 rfl W.heap.size 2 i0 (.int .i64 0) 1 8 Tryz.underlying97 hi0 hz0 hz1 hz2 rfl (by decide) _ _ _ rfl (Ze.OwnI.alloc HO1.out _) ⟨w1.heap.size, 0, none⟩ 1 1 [.int .i64 (k : Nat)] rfl rfl (one_newI _ _ _) (one_cellI _) (by rw [HLT.out]; unfold maxLen; omega) (by rw [HLT.out]; omega) (by simp; omega) ?_)
            intro v2 w2 hown2 hgrow2 _
            have HO2 : Hid (OwnI w2 W.heap.size v2 (ints (l.take p ++ [k]))) := by
              unfold Hid
              rw [ints_snoc]
              exact In.OwnI.snoc hown2
            have hb2 := In.app_one B1.out z1 (Nat.le_refl _) HO1.out hgrow2
            have z2 := hb2.size
            have O2 := hideO (O4.out.below hb2 z4)
            have B2 := hideO hb2
            clear hown2 hgrow2 hb2 B1 O1
            have HLT2 : Hid ((ints (l.take p ++ [k])).length = p + 1) := by
              unfold Hid
              simp [ints_len]
              have := HL.out
              omega
            have HLD : Hid ((ints (l.drop p)).length = k - p) := by
              unfold Hid
              simp [ints_len, HL.out]
            have HFIN : Hid (∀ v3 w3, w3.ownsRow W.heap.size 2 1 v3 (p + 1 + (k - p)) ((ints (l.take p ++ [k])).map (Value.int .i64) ++ (ints (l.drop p)).map (Value.int .i64)) → OwnI w3 W.heap.size v3 (ints (l.take p ++ [k] ++ l.drop p))) := fun v3 w3 h => by
              have e : ints (l.take p ++ [k] ++ l.drop p) = ints (l.take p ++ [k]) ++ ints (l.drop p) := by simp [ints]
              rw [e]
              apply Ze.OwnI.joined
              rw [HLT2.out, HLD.out]
              exact h
            have HOW2 : Hid (w2.ownsRow W.heap.size 2 1 v2 (p + 1) ((ints (l.take p ++ [k])).map (Value.int .i64))) := by
              have := HO2.out
              unfold OwnI at this
              rw [HLT2.out] at this
              exact this
            have hv2 : v2 ≠ .slice none 0 0 := own_ne HO2.out (by rw [HLT2.out]; omega)
            by_cases hkp : p = k
            · have HD0 : Hid (ints (l.drop p) = []) := by
                unfold Hid
                rw [hkp, ← HL.out, List.drop_length]
                rfl
              subst hkp
              by_cases hcp : cap = p
              · subst hcp
                go_wp2_with (at_builtin; refine wpList_append_own _ rfl (.tmp 42) (.tmp 45) 97 rfl W.heap.size 2 i0 (.int .i64 0) 1 8 Tryz.underlying97 hi0 hz0 hz1 hz2 rfl (by decide) _ _ _ rfl HOW2.out _ 0 _ [] rfl rfl (by intro j u hj; simp at hj) (by intro u hu; simp at hu) (by unfold maxLen; omega) (by omega) (by omega) ?_)
                intro v3 w3 hown3 hgrow3 _
                have HO3 := hideO (HFIN.out v3 w3 (by rw [HD0.out, Nat.sub_self, List.map_nil, List.append_nil]; exact hown3))
                have HN3 := hideO (own_ne HO3.out (by simp [ints_len]; omega))
                have hb3 := hideO (Ze.app_row B2.out z2 (Nat.le_refl _) HO2.out hgrow3)
                clear hown3 hgrow3
                go_wp2_with fail
                go_roundw
                case rel => exact ⟨cap + 1, _, by go_num, by omega, HQ.out.1, HQ.out.2, HO3.out.mono zs4, HN3.out, B4.out.trans (hb3.out.mono zs4)⟩
                case measure => simp [intOf]; omega
              · have hcp1 : ¬ (cap : Int) = (p : Int) := by omega
                have hcp2 : p < cap := by omega
                go_wp2_with (at_builtin; refine wpList_append_own _ rfl (.tmp 42) (.tmp 45) 97 rfl W.heap.size 2 i0 (.int .i64 0) 1 8 Tryz.underlying97 hi0 hz0 hz1 hz2 rfl (by decide) _ _ _ rfl HOW2.out _ 0 _ [] rfl rfl (by intro j u hj; simp at hj) (by intro u hu; simp at hu) (by unfold maxLen; omega) (by omega) (by omega) ?_)
                intro v3 w3 hown3 hgrow3 _
                have HO3 := hideO (HFIN.out v3 w3 (by rw [HD0.out, Nat.sub_self, List.map_nil, List.append_nil]; exact hown3))
                have HN3 := hideO (own_ne HO3.out (by simp [ints_len]; omega))
                have hb3 := hideO (Ze.app_row B2.out z2 (Nat.le_refl _) HO2.out hgrow3)
                clear hown3 hgrow3
                go_wp2_with fail
                go_roundw
                case rel => exact ⟨p + 1, _, by go_num, by omega, HQ.out.1, HQ.out.2, HO3.out.mono zs4, HN3.out, B4.out.trans (hb3.out.mono zs4)⟩
                case measure => simp [intOf]; omega
            · have hpk2 : p < k := by omega
              have hcp0 : ¬ cap = p := by omega
              have hcp1 : ¬ (cap : Int) = (p : Int) := by omega
              obtain ⟨dl, hdl⟩ : ∃ dl, dl = k - p := ⟨_, rfl⟩
              have edl : (k : Int) - (p : Int) = (dl : Int) := by omega
              have edl2 : k - p = dl := hdl.symm
              rw [← hdl] at HFIN HLD
              clear hkp hdl
              go_wp2_with (at_builtin; refine wpList_append_own _ rfl (.tmp 42) (.tmp 45) 97 rfl W.heap.size 2 i0 (.int .i64 0) 1 8 Tryz.underlying97 hi0 hz0 hz1 hz2 rfl (by decide) _ _ _ rfl HOW2.out ⟨g, p, none⟩ dl _ ((ints (l.drop p)).map (Value.int .i64)) rfl ?len3 ?new3 (own_cells _) ?c31 ?c32 (by omega) ?_)
              case len3 => rw [List.length_map, HLD.out, Nat.mul_one]
              case new3 => exact isO_drop O2.out p
              case c31 => have := HLD.out; unfold maxLen; omega
              case c32 => have := HLD.out; omega
              intro v3 w3 hown3 hgrow3 _
              have HO3 := hideO (HFIN.out v3 w3 hown3)
              have HN3 := hideO (own_ne HO3.out (by simp [ints_len]; omega))
              have hb3 := hideO (Ze.app_row B2.out z2 (Nat.le_refl _) HO2.out hgrow3)
              clear hown3 hgrow3
              go_wp2_with fail
              go_roundw
              case rel => exact ⟨k + 1, _, by go_num, by omega, HQ.out.1, HQ.out.2, HO3.out.mono zs4, HN3.out, B4.out.trans (hb3.out.mono zs4)⟩
              case measure => simp [intOf]; omega
        · have hpd : decide ((0 : Int) < (p : Int)) = false := decide_eq_false (by omega)
          have hpn : ¬ (0 : Int) < (p : Int) := by omega
          clear hO2
          go_wp2_with fail
          go_quiet (fail)
          have HQ := hideO (ord_put (clT_weak (turnV t)) HP.out HS.out (show p ≤ l.length by have := HL.out; omega) HHI.out (by exact Or.inl (by omega)))
          have G4 := hideO (own_drewN G1.out (q + nq))
          have O4 : Hid (IsO (wo.drewN (q + nq)) g 2 (ints l)) := HO.out.of_heap rfl
          have B4 := hideO (below_drewN GB.out (q + nq))
          have hW : wr.drewN nq = wo.drewN (q + nq) := by rw [HWR.out]; exact World.drewN_drewN _ _ _
          have z4 : g < (wo.drewN (q + nq)).heap.size := hgl
          have zs4 : w.heap.size ≤ (wo.drewN (q + nq)).heap.size := hsz
          rw [hW]
          clear hW
          generalize wo.drewN (q + nq) = W at G4 O4 B4 z4 zs4 ⊢
          have HEM := hideO (Ze.OwnI.empty W)
          have HTA : Hid ((ints l).length = k) := by
            unfold Hid
            rw [ints_len, HL.out]
          have hpc : (p : Int) ≤ (cap : Int) := by omega
          have hpk' : (p : Int) ≤ (k : Int) := by omega
          go_wp2_with (at_builtin; refine wpList_append_own _ rfl (.tmp 33) (.tmp 36) 97 rfl W.heap.size 2 i0 (.int .i64 0) 1 8 Tryz.underlying97 hi0 hz0 hz1 hz2 rfl (by decide) _ 0 [] rfl HEM.out ⟨g, 0, none⟩ p cap ((ints (l.take p)).map (Value.int .i64)) rfl ?len1 ?new1 (own_cells _) (by unfold maxLen; omega) (by omega) (by simp) ?_)
          case len1 => simp [ints_len]; have := HL.out; omega
          case new1 => exact own_news (isO_take (O4.out.below ((Below.refl _ W).alloc (Nat.le_refl _) _) z4) p)
          intro v1 w1 hown1 hgrow1 _
          have HO1 : Hid (OwnI w1 W.heap.size v1 (ints (l.take p))) := by
            have e : (ints (l.take p)).length = p := by simp [ints_len]; have := HL.out; omega
            unfold Hid OwnI
            rw [e]
            exact hown1
          have hb1 : Below W.heap.size W w1 := ((Below.refl W.heap.size W).alloc (Nat.le_refl _) _).grown hgrow1 (by simp) (fun k hk => by simp [Value.ownBlock] at hk; omega)
          have z1 := hb1.size
          have O1 := hideO (O4.out.below hb1 z4)
          have B1 := hideO hb1
          clear hown1 hgrow1 hb1
          have HLT : Hid ((ints (l.take p)).length = p) := by
            unfold Hid
            simp [ints_len]
            have := HL.out
            omega
          go_wp2_with (at_builtin; refine wpList_append_own _ rfl (.tmp 38) (.tmp 40) 97 rfl W.heap.size 2 i0 (.int .i64 0) 1 8 Tryz.underlying97 hi0 hz0 hz1 hz2 rfl (by decide) _ _ _ rfl (Ze.OwnI.alloc HO1.out _) ⟨w1.heap.size, 0, none⟩ 1 1 [.int .i64 (k : Nat)] rfl rfl (one_newI _ _ _) (one_cellI _) (by rw [HLT.out]; unfold maxLen; omega) (by rw [HLT.out]; omega) (by simp; omega) ?_)
          intro v2 w2 hown2 hgrow2 _
          have HO2 : Hid (OwnI w2 W.heap.size v2 (ints (l.take p ++ [k]))) := by
            unfold Hid
            rw [ints_snoc]
            exact In.OwnI.snoc hown2
          have hb2 := In.app_one B1.out z1 (Nat.le_refl _) HO1.out hgrow2
          have z2 := hb2.size
          have O2 := hideO (O4.out.below hb2 z4)
          have B2 := hideO hb2
          clear hown2 hgrow2 hb2 B1 O1
          have HLT2 : Hid ((ints (l.take p ++ [k])).length = p + 1) := by
            unfold Hid
            simp [ints_len]
            have := HL.out
            omega
          have HLD : Hid ((ints (l.drop p)).length = k - p) := by
            unfold Hid
            simp [ints_len, HL.out]
          have HFIN : Hid (∀ v3 w3, w3.ownsRow W.heap.size 2 1 v3 (p + 1 + (k - p)) ((ints (l.take p ++ [k])).map (Value.int .i64) ++ (ints (l.drop p)).map (Value.int .i64)) → OwnI w3 W.heap.size v3 (ints (l.take p ++ [k] ++ l.drop p))) := fun v3 w3 h => by
            have e : ints (l.take p ++ [k] ++ l.drop p) = ints (l.take p ++ [k]) ++ ints (l.drop p) := by simp [ints]
            rw [e]
            apply Ze.OwnI.joined
            rw [HLT2.out, HLD.out]
            exact h
          have HOW2 : Hid (w2.ownsRow W.heap.size 2 1 v2 (p + 1) ((ints (l.take p ++ [k])).map (Value.int .i64))) := by
            have := HO2.out
            unfold OwnI at this
            rw [HLT2.out] at this
            exact this
          have hv2 : v2 ≠ .slice none 0 0 := own_ne HO2.out (by rw [HLT2.out]; omega)
          by_cases hkp : p = k
          · have HD0 : Hid (ints (l.drop p) = []) := by
              unfold Hid
              rw [hkp, ← HL.out, List.drop_length]
              rfl
            subst hkp
            by_cases hcp : cap = p
            · subst hcp
              go_wp2_with (at_builtin; refine wpList_append_own _ rfl (.tmp 42) (.tmp 45) 97 rfl W.heap.size 2 i0 (.int .i64 0) 1 8 Tryz.underlying97 hi0 hz0 hz1 hz2 rfl (by decide) _ _ _ rfl HOW2.out _ 0 _ [] rfl rfl (by intro j u hj; simp at hj) (by intro u hu; simp at hu) (by unfold maxLen; omega) (by omega) (by omega) ?_)
              intro v3 w3 hown3 hgrow3 _
              have HO3 := hideO (HFIN.out v3 w3 (by rw [HD0.out, Nat.sub_self, List.map_nil, List.append_nil]; exact hown3))
              have HN3 := hideO (own_ne HO3.out (by simp [ints_len]; omega))
              have hb3 := hideO (Ze.app_row B2.out z2 (Nat.le_refl _) HO2.out hgrow3)
              clear hown3 hgrow3
              go_wp2_with fail
              go_roundw
              case rel => exact ⟨cap + 1, _, by go_num, by omega, HQ.out.1, HQ.out.2, HO3.out.mono zs4, HN3.out, B4.out.trans (hb3.out.mono zs4)⟩
              case measure => simp [intOf]; omega
            · have hcp1 : ¬ (cap : Int) = (p : Int) := by omega
              have hcp2 : p < cap := by omega
              go_wp2_with (at_builtin; refine wpList_append_own _ rfl (.tmp 42) (.tmp 45) 97 rfl W.heap.size 2 i0 (.int .i64 0) 1 8 Tryz.underlying97 hi0 hz0 hz1 hz2 rfl (by decide) _ _ _ rfl HOW2.out _ 0 _ [] rfl rfl (by intro j u hj; simp at hj) (by intro u hu; simp at hu) (by unfold maxLen; omega) (by omega) (by omega) ?_)
              intro v3 w3 hown3 hgrow3 _
              have HO3 := hideO (HFIN.out v3 w3 (by rw [HD0.out, Nat.sub_self, List.map_nil, List.append_nil]; exact hown3))
              have HN3 := hideO (own_ne HO3.out (by simp [ints_len]; omega))
              have hb3 := hideO (Ze.app_row B2.out z2 (Nat.le_refl _) HO2.out hgrow3)
              clear hown3 hgrow3
              go_wp2_with fail
              go_roundw
              case rel => exact ⟨p + 1, _, by go_num, by omega, HQ.out.1, HQ.out.2, HO3.out.mono zs4, HN3.out, B4.out.trans (hb3.out.mono zs4)⟩
              case measure => simp [intOf]; omega
          · have hpk2 : p < k := by omega
            have hcp0 : ¬ cap = p := by omega
            have hcp1 : ¬ (cap : Int) = (p : Int) := by omega
            obtain ⟨dl, hdl⟩ : ∃ dl, dl = k - p := ⟨_, rfl⟩
            have edl : (k : Int) - (p : Int) = (dl : Int) := by omega
            have edl2 : k - p = dl := hdl.symm
            rw [← hdl] at HFIN HLD
            clear hkp hdl
            go_wp2_with (at_builtin; refine wpList_append_own _ rfl (.tmp 42) (.tmp 45) 97 rfl W.heap.size 2 i0 (.int .i64 0) 1 8 Tryz.underlying97 hi0 hz0 hz1 hz2 rfl (by decide) _ _ _ rfl HOW2.out ⟨g, p, none⟩ dl _ ((ints (l.drop p)).map (Value.int .i64)) rfl ?len3 ?new3 (own_cells _) ?c31 ?c32 (by omega) ?_)
            case len3 => rw [List.length_map, HLD.out, Nat.mul_one]
            case new3 => exact isO_drop O2.out p
            case c31 => have := HLD.out; unfold maxLen; omega
            case c32 => have := HLD.out; omega
            intro v3 w3 hown3 hgrow3 _
            have HO3 := hideO (HFIN.out v3 w3 hown3)
            have HN3 := hideO (own_ne HO3.out (by simp [ints_len]; omega))
            have hb3 := hideO (Ze.app_row B2.out z2 (Nat.le_refl _) HO2.out hgrow3)
            clear hown3 hgrow3
            go_wp2_with fail
            go_roundw
            case rel => exact ⟨k + 1, _, by go_num, by omega, HQ.out.1, HQ.out.2, HO3.out.mono zs4, HN3.out, B4.out.trans (hb3.out.mono zs4)⟩
            case measure => simp [intOf]; omega
    · obtain rfl : k = t.size := by omega
      go_wp2_with fail
      go_ret
      exact ⟨_, l, rfl, G1.out, ⟨HP.out, HS.out⟩, by simp, GB.out⟩
end Go.Proofs.YtjdlgpnhkfdehaaGreatDoor.So


/- What the specification's FrontBack answers. -/
namespace Go.Proofs.YtjdlgpnhkfdehaaGreatDoor.Fr
open Go.RowKit
open Go.Proofs.YtjdlgpnhkfdehaaGreatDoor.Sh (IsB rowF upd made_row upd_same upd_other strF)
open Go.Proofs.YtjdlgpnhkfdehaaGreatDoor.Ze (hideZ numsR upTo upTo_yes numsR_of numsR_long numsR_yes nums_spec)
open Go.Proofs.YtjdlgpnhkfdehaaGreatDoor.St (Aft)
open Go.Proofs.YtjdlgpnhkfdehaaGreatDoor.In (Ints)
open Go.Proofs.YtjdlgpnhkfdehaaGreatDoor.Nu (ret_strJ bv own_string app_below)
open Go.Proofs.YtjdlgpnhkfdehaaGreatDoor.Ap (Own0 wpList_append_own0)
def Own0B (w : World) (base : Nat) (v : Value) (l : List UInt8) : Prop := Own0 w base 5 1 v l.length (l.map bv)
theorem own0_string {P : Program} {w : World} {base src dst : TypeId} {v : Value} (l : List UInt8) (h : Own0B w base v l)
    (hs : P.underlying src = some (.slice 5)) (he : P.underlying 5 = some (.int .u8)) (hd : P.underlying dst = some .string) :
    (convert src dst v).run P w = .ok (.string ⟨l.toArray⟩) w := by
  rcases h with ⟨b, rfl, h0, _⟩ | h
  · obtain rfl : l = [] := List.eq_nil_of_length_eq_zero h0
    exact run_convert_bytes_back w src dst 5 b 0 [] hs he hd (by intro j hj; exact absurd hj (Nat.not_lt_zero j))
  · exact own_string l h hs he hd
theorem one_newB (W : World) (s : Int) (t : TypeId) : ∀ (j : Nat) (u : Value), [(Value.int .u8) s][j]? = some u → (W.alloc (.cells #[.int .u8 s] t)).cell? ((⟨W.heap.size, 0, none⟩ : Addr).add j) = some u := by
  intro j u hj
  match j, hj with
  | 0, hj => simp at hj; subst hj; simp [Addr.add]
theorem one_cellB (s : Int) : ∀ u ∈ [(Value.int .u8) s], u.oneCell' = true := by
  intro u hu
  simp at hu
  subst hu
  rfl
theorem own0B_snoc {w : World} {base : Nat} {v : Value} {l : List UInt8} {x : Int} (h0 : 0 ≤ x) (h1 : x < 256) (h : w.ownsRow base 5 1 v (l.length + 1) (l.map bv ++ [.int .u8 x])) : Own0B w base v (l ++ [UInt8.ofNat x.toNat]) := by
  refine .inr ?_
  have e : bv (UInt8.ofNat x.toNat) = .int .u8 x := by
    simp [bv]
    omega
  rw [List.length_append, List.map_append, List.map_singleton, e]
  exact h
end Go.Proofs.YtjdlgpnhkfdehaaGreatDoor.Fr


/- What the specification's Bwt answers. -/
namespace Go.Proofs.YtjdlgpnhkfdehaaGreatDoor.So
open Go.RowKit Go.Sort Go.Proofs
open Go.Proofs.YtjdlgpnhkfdehaaGreatDoor.Sh (bt bt_get bt_lt strF IsB made_row)
open Go.Proofs.YtjdlgpnhkfdehaaGreatDoor.In (OwnI Ints)
open Go.Proofs.YtjdlgpnhkfdehaaGreatDoor.Nu (bv)
open Go.Proofs.YtjdlgpnhkfdehaaGreatDoor.Ap (Own0 wpList_append_own0)
open Go.Proofs.YtjdlgpnhkfdehaaGreatDoor.Fr (Own0B own0_string one_newB one_cellB own0B_snoc)
def blB (t : ByteArray) (f : Nat → Nat) (k : Nat) : List UInt8 := (List.range k).map fun j => UInt8.ofNat (lastB t (f j))
theorem blB_len (t : ByteArray) (f : Nat → Nat) (k : Nat) : (blB t f k).length = k := by simp [blB]
theorem blB_snoc (t : ByteArray) (f : Nat → Nat) (k : Nat) : blB t f (k + 1) = blB t f k ++ [UInt8.ofNat (((lastB t (f k) : Nat) : Int)).toNat] := by
  unfold blB
  rw [List.range_succ, List.map_append]
  rfl
set_option maxRecDepth 100000 in
set_option maxHeartbeats 1000000 in
theorem l05Bwt_spec (t : ByteArray) (w : World) (ht : t.size ≤ 48) :
    Calls Tryz.prog 170 #[.string t] w fun e w' => e = .returned (.tuple #[.string (bwtT t), .int .i64 (bwtA t : Nat)]) ∧ Below w.heap.size w w' := by
  obtain ⟨i0, hi0, hz0, hz1, hz2⟩ := info_parts Nu.Tryz.infoJ5
  have HOS := hideO (order_spec t w ht)
  go_enter Tryz.func170, Tryz.ntmps170
  go_wp2_with fail
  refine HOS.out.mono ?_
  rintro e w1 ⟨v, l, rfl, ho, hok, _, hb⟩
  have HE := hideO (bwt_yes ht (fun j hj => rfl) (f := ordF t))
  have hlen : l.length = t.size := by have := hok.1.length_eq; simpa using this
  have HLen := hideO hlen
  have HOR : Hid (∀ k (h : k < l.length), ordF t k = l[k] ∧ l[k] < t.size) := fun k h => ⟨ordF_list hok k h, by
    have := hok.1.mem_iff.1 (List.getElem_mem h)
    simpa using this⟩
  obtain ⟨a, cap, rfl, hcap, hI⟩ := ho.ints
  have HI := hideO hI
  rw [ints_len, hlen] at hcap ⊢
  have HB1 := hideO hb
  have z1 := hb.size
  clear ho hok hb hI hlen
  go_wp2_with fail
  go_loopw [7, 5, 6] (fun i u m wr => ∃ k : Nat, i = .int .i64 k ∧ k ≤ t.size ∧ m = .int .i64 (atK (ordF t) k : Nat) ∧ Own0B wr (w1.heap.size + 1) u (blB t (ordF t) k) ∧ w1.heap.size < wr.heap.size ∧ Below w1.heap.size w1 wr) (fun i _ _ _ => t.size - (intOf i).toNat)
  case atStart => exact ⟨0, rfl, Nat.zero_le _, rfl, .inl ⟨_, rfl, rfl, rfl⟩, by simp, (Below.refl _ _).alloc (Nat.le_refl _) _⟩
  case round =>
    obtain ⟨k, rfl, hk, rfl, hown, hgs, hbel⟩ := hrel
    have O1 := hideO hown
    have GB := hideO hbel
    clear hbel
    by_cases hlt : k < t.size
    · have hd0 : decide ((k : Int) < (t.size : Int)) = true := decide_eq_true (by omega)
      have hkz : (k : Int) < (t.size : Int) := by omega
      have hkl : k < l.length := by rw [HLen.out]; exact hlt
      have hkl' : k < (ints l).length := by rw [ints_len]; exact hkl
      obtain ⟨b, off, rfl, hb, hc⟩ := (HI.out.below GB.out).some (by omega)
      have ci := hc k hkl'
      have HC : Hid (∀ W : World, Below w1.heap.size w1 W → W.cell? ⟨b, off + k, none⟩ = some (.int .i64 (ints l)[k])) := fun W hW => by
        obtain ⟨b', off', e1, _, hc'⟩ := ((HI.out.below hW).some (by omega : 0 < (ints l).length))
        cases e1
        exact hc' k hkl'
      have ey : (ints l)[k] = ((l[k] : Nat) : Int) := by simp [ints]
      rw [ey] at ci HC
      obtain ⟨ho1, hxt⟩ := HOR.out k hkl
      have HN := hideO (blB_snoc t (ordF t) k)
      have HA := hideO (atK_next (ordF t) k)
      rw [ho1] at HN HA
      obtain ⟨x, hx⟩ : ∃ x, x = l[k] := ⟨_, rfl⟩
      rw [← hx] at ci HC hxt HN HA
      obtain ⟨s, hs⟩ : ∃ s, s = x + t.size - 1 := ⟨_, rfl⟩
      obtain ⟨r, hr⟩ : ∃ r, r = s % t.size := ⟨_, rfl⟩
      have hrt : r < t.size := by rw [hr]; exact Nat.mod_lt _ (by omega)
      have e1 : (x : Int) + (t.size : Int) - 1 = (s : Int) := by omega
      have e2 : (s : Int).tmod (t.size : Int) = (r : Int) := by rw [Int.tmod_eq_emod_of_nonneg (by omega), hr, Int.natCast_emod]
      have hwp : IntKind.i64.wrap (s : Int) = (s : Int) := by rw [IntKind.wrap_i64]; omega
      have hwr : IntKind.i64.wrap (r : Int) = (r : Int) := by rw [IntKind.wrap_i64]; omega
      have hrz : (r : Int) < (t.size : Int) := by omega
      have htn : ¬ ((t.size : Int) = 0) := by omega
      obtain ⟨y, hy, hyt⟩ : ∃ y : UInt8, t[r] = y ∧ y.toNat = lastB t x := ⟨_, rfl, by rw [bt_get]; unfold lastB; rw [hr, hs]⟩
      rw [← hyt] at HN
      have HBL := hideO (blB_len t (ordF t) k)
      obtain ⟨bs, hbs⟩ : ∃ bs, bs = blB t (ordF t) k := ⟨_, rfl⟩
      rw [← hbs] at O1 HN HBL
      obtain ⟨m, hm⟩ : ∃ m, m = atK (ordF t) k := ⟨_, rfl⟩
      rw [← hm] at HA ⊢
      have hmk : m ≤ k := by rw [hm]; exact atK_le _ _
      clear hc ey hown ho1 hx hs hr hyt hbs hm
      have HY := hideO (UInt8.toNat_lt y)
      go_wp2_with (at_builtin; refine wpList_append_own0 _ rfl (.tmp 17) (.tmp 31) 22 rfl (w1.heap.size + 1) 5 i0 (.int .u8 0) 1 1 Tryz.underlying22 hi0 hz0 hz1 hz2 rfl (by decide) _ bs.length (bs.map bv) rfl (Own0.alloc O1.out _) ⟨wr.heap.size, 0, none⟩ 1 1 [.int .u8 (y.toNat : Nat)] rfl rfl (one_newB _ _ _) (one_cellB _) (by decide) (by unfold maxLen; have := HBL.out; omega) (by have := HBL.out; omega) (by simp; omega) ?_)
      intro v' w5 hown' hb5
      have N5 := hideO (own0B_snoc (by omega) (by have := HY.out; omega) hown')
      have ba : Below (w1.heap.size + 1) wr w5 := ((Below.refl (w1.heap.size + 1) wr).alloc (by omega) _).trans (hb5 _ (Nat.le_refl _))
      have B5 := hideO (GB.out.trans (ba.mono (by omega)))
      have c5 := HC.out w5 B5.out
      have z5 := ba.size
      clear hown' hb5 ba ci
      by_cases hx0 : x = 0
      · subst hx0
        have HM := hideO (HA.out.1 rfl)
        go_wp2_with fail
        go_roundw
        case rel => exact ⟨k + 1, by go_num, by omega, by rw [HM.out], by rw [HN.out]; exact N5.out, by omega, B5.out⟩
        case measure => simp [intOf]; omega
      · have HM := hideO (HA.out.2 hx0)
        have hxz : ((x : Int) == 0) = false := by simpa using hx0
        go_wp2_with fail
        go_roundw
        case rel => exact ⟨k + 1, by go_num, by omega, by rw [HM.out], by rw [HN.out]; exact N5.out, by omega, B5.out⟩
        case measure => simp [intOf]; omega
    · have hd0 : decide ((k : Int) < (t.size : Int)) = false := decide_eq_false (by omega)
      obtain rfl : k = t.size := by omega
      have hcv := own0_string (P := Tryz.prog) (src := 22) (dst := 9) _ hown Tryz.underlying22 Tryz.underlying5 Tryz.underlying9
      have HQ : Hid ((⟨(blB t (ordF t) t.size).toArray⟩ : ByteArray) = bwtT t) := HE.out.1.symm
      have HQ2 : Hid (atK (ordF t) t.size = bwtA t) := HE.out.2.1.symm
      rw [HQ.out] at hcv
      rw [HQ2.out]
      have BZ := hideO (HB1.out.trans (GB.out.mono z1))
      clear hown
      go_wp2_with fail
      refine bodyPost_ret (v := .tuple #[.string (bwtT t), .int .i64 (bwtA t : Nat)]) (by simp [results, Tryz.results170, go_sem]) rfl ⟨rfl, BZ.out⟩
end Go.Proofs.YtjdlgpnhkfdehaaGreatDoor.So

