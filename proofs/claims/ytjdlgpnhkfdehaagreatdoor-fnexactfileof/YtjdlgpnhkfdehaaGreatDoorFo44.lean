/- Texts put together: GetTop3, OrdSpec, FrontBS, BwtSpec, UnbSpec, UnbSpec2, BackSpec. -/
import Derived.Test.YtjdlgpnhkfdehaaGreatDoorFo43
import Derived.Test.YtjdlgpnhkfdehaaGreatDoorFo32
import Derived.Test.YtjdlgpnhkfdehaaGreatDoorFo22
import Derived.Test.YtjdlgpnhkfdehaaGreatDoorFo36
import Derived.Test.YtjdlgpnhkfdehaaGreatDoorFo37
import Derived.Test.YtjdlgpnhkfdehaaGreatDoorFo19
import Derived.Test.YtjdlgpnhkfdehaaGreatDoorFo27
/- What the specification's CodeGet answers; the laws' own helpers on such answers. -/
namespace Go.Proofs.YtjdlgpnhkfdehaaGreatDoor.Bi
open Go.RowKit
open Go.Proofs.YtjdlgpnhkfdehaaGreatDoor.In (Ints IsI OwnIn OwnI)
open Go.Proofs.YtjdlgpnhkfdehaaGreatDoor.St (Aft)
set_option maxRecDepth 100000 in
set_option maxHeartbeats 2000000 in
theorem get_spec (l : List Int) (t : ByteArray) (m : Int) (a : Option Addr) (cap : Nat) (w : World) (hl : Ints w w.heap.size a l) (hn : l.length ≤ 1048576) (ht : t.size ≤ 1048576) :
  Calls Tryz.prog 125 #[.slice a l.length cap, .string t, .int .i64 m] w fun e w' => ∃ v, e = .returned (.agg #[v, .int .i64 (getR l t m).2.1, .int .i64 (getR l t m).2.2]) ∧ OwnIn w' w.heap.size w'.heap.size v (getR l t m).1 ∧ Below w.heap.size w w' := by
 by_cases h4 : 400 < l.length
 ·rw [getR_size (Or.inl h4)]
  clear hl
  generalize l.length = n at hn h4 ⊢
  go_enter Tryz.func125, Tryz.ntmps125
  go_wp2_with fail
  refine bodyPost_ret (v := .agg #[.slice none 0 0, .int .i64 0, .int .i64 2]) (by simp [results, Tryz.results125, go_sem]) rfl ⟨.slice none 0 0, rfl, nil_in _ _ _, (Below.refl _ _).alloc (Nat.le_refl _) _⟩
 ·have hd4 : decide (400 < (l.length : Int)) = false := decide_eq_false (by omega)
  by_cases h8 : 8000 < t.size
  ·rw [getR_size (Or.inr h8)]
   clear hl
   generalize l.length = n at hn h4 hd4 ⊢
   go_enter Tryz.func125, Tryz.ntmps125
   go_wp2_with fail
   refine bodyPost_ret (v := .agg #[.slice none 0 0, .int .i64 0, .int .i64 2]) (by simp [results, Tryz.results125, go_sem]) rfl ⟨.slice none 0 0, rfl, nil_in _ _ _, (Below.refl _ _).alloc (Nat.le_refl _) _⟩
  ·have hd8 : decide (8000 < (t.size : Int)) = false := decide_eq_false (by omega)
   have hno : ¬ (400 < l.length ∨ 8000 < t.size) := by omega
   have B0 := hideB ((Below.refl w.heap.size w).alloc (Nat.le_refl _) (.cells #[.slice none 0 0, .int .i64 0, .int .i64 0] 139))
   have hl0 := (hl.below B0.out).mono (by simp : w.heap.size ≤ (w.alloc (.cells #[.slice none 0 0, .int .i64 0, .int .i64 0] 139)).heap.size)
   have HWH := hideB (l04Whole_any l a cap _ _ hl0 (by omega))
   have HGO := hideB (good_spec t (w.alloc (.cells #[.slice none 0 0, .int .i64 0, .int .i64 0] 139)) ht)
   cases hw : whole l with
   | false =>
    rw [getR_form hno (Or.inl hw)]
    rw [hw] at HWH
    clear hl hno hl0
    generalize l.length = n at hn h4 hd4 HWH ⊢
    go_enter Tryz.func125, Tryz.ntmps125
    go_wp2_with fail
    refine HWH.out.mono ?_
    rintro e w' ⟨rfl, hw'⟩
    subst w'
    go_wp2_with fail
    refine bodyPost_ret (v := .agg #[.slice none 0 0, .int .i64 0, .int .i64 1]) (by simp [results, Tryz.results125, go_sem]) rfl ⟨.slice none 0 0, rfl, nil_in _ _ _, (Below.refl _ _).alloc (Nat.le_refl _) _⟩
   | true =>
    cases hg : good t with
    | false =>
     rw [getR_form hno (Or.inr (Or.inl hg))]
     rw [hw] at HWH
     rw [hg] at HGO
     clear hl hno hw hl0
     generalize l.length = n at hn h4 hd4 HWH ⊢
     go_enter Tryz.func125, Tryz.ntmps125
     go_wp2_with fail
     refine HWH.out.mono ?_
     rintro e w' ⟨rfl, hw'⟩
     subst w'
     go_wp2_with fail
     refine HGO.out.mono ?_
     rintro e w' ⟨rfl, hw'⟩
     subst w'
     go_wp2_with fail
     refine bodyPost_ret (v := .agg #[.slice none 0 0, .int .i64 0, .int .i64 1]) (by simp [results, Tryz.results125, go_sem]) rfl ⟨.slice none 0 0, rfl, nil_in _ _ _, (Below.refl _ _).alloc (Nat.le_refl _) _⟩
    | true =>
     by_cases hm : m < 0 ∨ 400 < m
     ·rw [getR_form hno (Or.inr (Or.inr hm))]
      have HIS := hideB (is_no m 0 400 (w.alloc (.cells #[.slice none 0 0, .int .i64 0, .int .i64 0] 139)) hm)
      rw [hw] at HWH
      rw [hg] at HGO
      clear hl hno hw hg hm hl0
      generalize l.length = n at hn h4 hd4 HWH ⊢
      go_enter Tryz.func125, Tryz.ntmps125
      go_wp2_with fail
      refine HWH.out.mono ?_
      rintro e w' ⟨rfl, hw'⟩
      subst w'
      go_wp2_with fail
      refine HGO.out.mono ?_
      rintro e w' ⟨rfl, hw'⟩
      subst w'
      go_wp2_with fail
      refine HIS.out.mono ?_
      rintro e w' ⟨rfl, hw'⟩
      subst w'
      go_wp2_with fail
      refine bodyPost_ret (v := .agg #[.slice none 0 0, .int .i64 0, .int .i64 1]) (by simp [results, Tryz.results125, go_sem]) rfl ⟨.slice none 0 0, rfl, nil_in _ _ _, (Below.refl _ _).alloc (Nat.le_refl _) _⟩
     ·obtain ⟨k, rfl⟩ : ∃ k : Nat, m = k := ⟨m.toNat, by omega⟩
      have HIS := hideB (is_yes k 0 400 (w.alloc (.cells #[.slice none 0 0, .int .i64 0, .int .i64 0] 139)) (by omega) (by omega))
      have HGE := hideB (l04Get_any l t k a cap _ hl0 (by omega) (whole_right hw) (by omega))
      rw [getR_in hno hw hg (by omega)]
      rw [hw] at HWH
      rw [hg] at HGO
      have hz0 : (w.alloc (.cells #[.slice none 0 0, .int .i64 0, .int .i64 0] 139)).heap.size = w.heap.size + 1 := by simp
      have O0 := hideB (Out0.new w)
      clear hl hno hw hg hm hl0
      obtain ⟨q, hq⟩ : ∃ q, q = outS (st l t k) := ⟨_, rfl⟩
      rw [← hq] at HGE ⊢
      clear hq
      generalize l.length = n at hn h4 hd4 HWH HGE ⊢
      go_enter Tryz.func125, Tryz.ntmps125
      go_wp2_with fail
      refine HWH.out.mono ?_
      rintro e w' ⟨rfl, hw'⟩
      subst w'
      go_wp2_with fail
      refine HGO.out.mono ?_
      rintro e w' ⟨rfl, hw'⟩
      subst w'
      go_wp2_with fail
      refine HIS.out.mono ?_
      rintro e w' ⟨rfl, hw'⟩
      subst w'
      go_wp2_with fail
      refine HGE.out.mono ?_
      rintro e w2 ⟨v, rfl, hv, hb2⟩
      rw [hz0] at hv hb2
      have V2 := hideB hv
      have B2 := hideB (B0.out.trans (hb2.mono (Nat.le_succ _)))
      have O2 := hideB (O0.out.below hb2 (Nat.lt_succ_self _))
      obtain ⟨x, c, rfl, _⟩ := hv.ints
      obtain ⟨ql, hql⟩ : ∃ ql, ql = q.1.length := ⟨_, rfl⟩
      rw [← hql] at V2 ⊢
      clear hv hb2 hz0 hql
      have c0 := O2.out.c0
      have c1 := O2.out.c1
      have c2 := O2.out.c2
      have f0 := O2.out.fr 0
      have f1 := O2.out.fr 1
      have f2 := O2.out.fr 2
      go_wp2_with fail
      refine bodyPost_ret (v := .agg #[.slice x ql c, .int .i64 q.2.1, .int .i64 q.2.2]) (by simp [results, Tryz.results125, go_sem, c0, c1, c2]) rfl ⟨.slice x ql c, rfl, ?_, ?_⟩
      ·have h1 := in_mono (hi' := w2.heap.size) V2.out (Nat.le_succ w.heap.size) (Nat.le_refl _)
       have h2 : OwnIn (((w2.setCell ⟨w.heap.size, 0, none⟩ (.slice x ql c)).setCell ⟨w.heap.size, 1, none⟩ (.int .i64 q.2.1)).setCell ⟨w.heap.size, 2, none⟩ (.int .i64 q.2.2)) (w.heap.size + 1) w2.heap.size (.slice x ql c) q.1 := by
        rcases V2.out with h | ⟨g, cc, hv, hg, hh, ho⟩
        ·exact .inl h
        ·exact .inr ⟨g, cc, hv, hg, hh, ((ho.of_heap (heap_setCell_other _ ⟨w.heap.size, 0, none⟩ g _ (by simp; omega))).of_heap (heap_setCell_other _ ⟨w.heap.size, 1, none⟩ g _ (by simp; omega))).of_heap (heap_setCell_other _ ⟨w.heap.size, 2, none⟩ g _ (by simp; omega))⟩
       exact in_mono h2 (Nat.le_succ _) (by simp [World.setCell])
      ·exact ((B2.out.setCell (Nat.le_refl _) _).setCell (Nat.le_refl _) _).setCell (Nat.le_refl _) _
end Go.Proofs.YtjdlgpnhkfdehaaGreatDoor.Bi


/- What the specification's OrderOf answers. -/
namespace Go.Proofs.YtjdlgpnhkfdehaaGreatDoor.So
open Go.RowKit
open Go.Proofs.YtjdlgpnhkfdehaaGreatDoor.In (OwnI IsO one_newI one_cellI)
open Go.Proofs.YtjdlgpnhkfdehaaGreatDoor.In.Tryz (infoI2)
open Go.Proofs.YtjdlgpnhkfdehaaGreatDoor.Ze (own_some own_news own_cells)
set_option maxHeartbeats 1000000 in
theorem turn_spec (t : ByteArray) (k : Nat) (w : World) (ht : t.size ≤ 1048576) (hk : k ≤ t.size) :
  Calls Tryz.prog 246 #[.string t, .int .i64 k] w fun e w' => e = .returned (.string (turnV t k)) ∧ ∃ q, w' = w.drewN q := by
 have mixed := mixed
 unfold turnV
 have hq0 : (t.extract k t.size).size + (t.extract 0 k).size ≤ 9223372036854775807 := by simp; omega
 have hle : (k : Int) ≤ (t.size : Int) := by omega
 have hge : ¬ (t.size : Int) < (k : Int) := by omega
 go_enter Tryz.func246, Tryz.ntmps246
 go_wp2_with fail
 go_quiet (fail)
 go_wp2_with fail
 go_ret
 exact ⟨rfl, nq, rfl⟩
theorem below_drewN {B : Nat} {w w' : World} (h : Below B w w') (n : Nat) : Below B w (w'.drewN n) := ⟨h.os, h.tape, h.output, h.size, h.block⟩
theorem own_drewN {w : World} {base : Nat} {v : Value} {l : List Int} (h : OwnI w base v l) (n : Nat) : OwnI (w.drewN n) base v l :=
 h.below (below_drewN (Below.refl _ _) n)
theorem isO_take {w : World} {g : Nat} {l : List Nat} (h : IsO w g 2 (ints l)) (p : Nat) : IsO w g 2 (ints (l.take p)) := by
 obtain ⟨cur, hb, hc⟩ := h
 refine ⟨cur, hb, fun j hj => ?_⟩
 have hj2 : j < min p l.length := by simpa [ints] using hj
 have hj' : j < p ∧ j < l.length := by omega
 have := hc j (by rw [ints_len]; exact hj'.2)
 simpa [ints] using this
theorem isO_drop {w : World} {g : Nat} {l : List Nat} (h : IsO w g 2 (ints l)) (p : Nat) : ∀ (j : Nat) (u : Value), ((ints (l.drop p)).map (Value.int .i64))[j]? = some u → w.cell? ((⟨g, p, none⟩ : Addr).add j) = some u := by
 intro j u hj
 have hadd : (⟨g, p, none⟩ : Addr).add j = ⟨g, p + j, none⟩ := by unfold Addr.add; split <;> simp_all
 rw [hadd]
 simp only [ints, List.getElem?_map, List.getElem?_drop] at hj
 cases hl : l[p + j]? with
 | none => rw [hl] at hj; cases hj
 | some x =>
  rw [hl] at hj
  obtain ⟨hlt, hx⟩ := List.getElem?_eq_some_iff.1 hl
  rw [h.cell (j := p + j) (by rw [ints_len]; exact hlt)]
  simp [ints, hx] at hj ⊢
  exact hj
theorem block_spec (t : ByteArray) (w : World) (hn : t.size ≤ 1048576) : Calls Tryz.prog 68 #[.string t] w fun e w' => e = .returned (.bool (decide (t.size ≤ 48))) ∧ w' = w := by
 by_cases h : t.size ≤ 48
 ·rw [decide_eq_true h]
  have h' : (t.size : Int) ≤ 48 := by omega
  go_enter Tryz.func68, Tryz.ntmps68
  go_wp2_with fail
  go_ret
  exact ⟨rfl, rfl⟩
 ·rw [decide_eq_false h]
  have h' : decide ((t.size : Int) ≤ 48) = false := decide_eq_false (by omega)
  go_enter Tryz.func68, Tryz.ntmps68
  go_wp2_with fail
  go_ret
  exact ⟨rfl, rfl⟩
theorem own_ne {w : World} {base : Nat} {v : Value} {l : List Int} (h : OwnI w base v l) (hl : 0 < l.length) : v ≠ .slice none 0 0 := by
 rcases h.split with ⟨_, rfl⟩ | ⟨g, cap, rfl, _⟩
 ·simp at hl
 ·simp
set_option maxRecDepth 100000 in
set_option maxHeartbeats 2000000 in
theorem order_spec (t : ByteArray) (w : World) (ht : t.size ≤ 48) :
    Calls Tryz.prog 218 #[.string t] w fun e w' => ∃ v l, e = .returned v ∧ OwnI w' w.heap.size v (ints l) ∧ OrdOk t l ∧ v ≠ .slice none 0 0 ∧ Below w.heap.size w w' := by
  have mixed := mixed
  obtain ⟨i0, hi0, hz0, hz1, hz2⟩ := info_parts infoI2
  have HW := hideO (Ze.OwnI.empty w)
  have HT := hideO (fun (k : Nat) (W : World) (hk : k ≤ t.size) => turn_spec t k W (by omega) hk)
  have htz : (t.size : Int) ≤ 48 := by omega
  go_enter Tryz.func218, Tryz.ntmps218
  go_wp2_with fail
  go_loopw [4, 3] (fun i u wr => ∃ (k : Nat) (l : List Nat), i = .int .i64 k ∧ k ≤ t.size ∧ l.Perm (List.range k) ∧ l.Pairwise (lx (clT (turnV t))) ∧ OwnI wr w.heap.size u (ints l) ∧ u ≠ .slice none 0 0 ∧ Below w.heap.size w wr) (fun i _ _ => t.size - (intOf i).toNat)
  case atStart => exact ⟨0, [], rfl, Nat.zero_le _, List.Perm.refl _, List.Pairwise.nil, HW.out, by simp, (Below.refl _ _).alloc (Nat.le_refl _) _⟩
  case round =>
    obtain ⟨k, l, rfl, hk, hp, hs, hown, hne, hbel⟩ := hrel
    have HP := hideO hp
    have HS := hideO hs
    have GB := hideO hbel
    have hsz := hbel.size
    have hlk : l.length = k := by have := hp.length_eq; simpa using this
    have HL := hideO hlk
    have G1 := hideO hown
    obtain ⟨g, cap, rfl, hg, hgl, ho⟩ := own_some hown hne
    rw [ints_len, hlk] at G1 ⊢
    have HO := hideO ho
    have hcap : k ≤ cap := by
      obtain ⟨_, h⟩ := hown
      rcases h with ⟨h, _⟩ | ⟨g', cap', cur, hv, _, _, hle, _⟩
      · cases h
      · simp at hv
        rw [ints_len, hlk] at hle
        omega
    have hcm : cap ≤ maxLen := by
      obtain ⟨_, h⟩ := hown
      rcases h with ⟨h, _⟩ | ⟨g', cap', cur, hv, _, _, _, hle, _⟩
      · cases h
      · simp at hv
        omega
    clear hown hne hbel hp hs ho hlk
    by_cases hlt : k < t.size
    · have hlt' : (k : Int) < (t.size : Int) := by omega
      obtain ⟨wo, hwo⟩ : ∃ wo, wo = wr := ⟨_, rfl⟩
      subst hwo
      go_wp2_with fail
      go_loopw [5] (fun i wr2 => ∃ (p q : Nat), i = .int .i64 p ∧ p ≤ k ∧ (∀ j (h : j < l.length), p ≤ j → clT (turnV t) k l[j] = true) ∧ wr2 = wo.drewN q) (fun i _ => (intOf i).toNat)
      case atStart => exact ⟨k, 0, rfl, Nat.le_refl _, fun j h1 h2 => absurd h1 (by have := HL.out; omega), rfl⟩
      case round =>
        obtain ⟨p, q, rfl, hpk, hhi, hwr⟩ := hrel
        have HHI := hideO hhi
        have HWR := hideO hwr
        have hO2 : IsO wr g 2 (ints l) := by rw [hwr]; exact HO.out.of_heap rfl
        clear hhi hwr
        by_cases hp0 : 0 < p
        · obtain ⟨pp, hpp⟩ : ∃ pp, p = pp + 1 := ⟨p - 1, by omega⟩
          have hppl : pp < l.length := by have := HL.out; omega
          have c0 := hO2.cell (j := pp) (by rw [ints_len]; exact hppl)
          have ey : (ints l)[pp]'(by rw [ints_len]; exact hppl) = ((l[pp] : Nat) : Int) := by simp [ints]
          rw [ey] at c0
          have hyk : l[pp] < k := by
            have := HP.out.mem_iff.1 (List.getElem_mem hppl)
            simpa using this
          obtain ⟨y, hy⟩ : ∃ y, y = l[pp] := ⟨_, rfl⟩
          rw [← hy] at c0 hyk
          have c1 := fun n' => (show (wr.drewN n').cell? ⟨g, pp, none⟩ = some (.int .i64 (y : Nat)) from c0)
          have HTK := hideO (fun W => HT.out k W (by omega))
          have HTY := hideO (fun W => HT.out y W (by omega))
          have HCL : Hid (Op.bytesLess (turnV t k).toList (turnV t y).toList = clT (turnV t) k y) := rfl
          have e1 : (p : Int) - 1 = (pp : Int) := by omega
          have hwp : IntKind.i64.wrap (pp : Int) = (pp : Int) := by rw [IntKind.wrap_i64]; omega
          have hpz : (pp : Int) < (k : Int) := by omega
          have hp0' : (0 : Int) < (p : Int) := by omega
          have hpd : decide ((0 : Int) < (p : Int)) = true := decide_eq_true hp0'
          have HPP := hideO hpp
          have HY := hideO hy
          generalize turnV t k = A at HTK HCL
          generalize turnV t y = B at HTY HCL
          clear c0 ey hpp hy hO2
          cases hcb : clT (turnV t) k y with
          | true =>
            have hbl : Op.bytesLess A.toList B.toList = true := HCL.out.trans hcb
            have HC2 : Hid (∀ j (h : j < l.length), pp ≤ j → clT (turnV t) k l[j] = true) := fun j h1 h2 => by
              rcases Nat.eq_or_lt_of_le h2 with e | e
              · subst e
                rw [← HY.out]
                exact hcb
              · exact HHI.out j h1 (by have := HPP.out; omega)
            go_wp2_with fail
            go_quiet (first | (go_at_call 246; (with_reducible refine Calls.quiet_of (HTK.out _))) | (go_at_call 246; (with_reducible refine Calls.quiet_of (HTY.out _))))
            all_goals (try go_wp2_with fail)
            go_roundw
            case rel => exact ⟨pp, q + nq, rfl, by omega, HC2.out, by rw [HWR.out]; exact World.drewN_drewN _ _ _⟩
            case measure => have := HPP.out; simp [intOf]; omega
          | false =>
            have hbl : Op.bytesLess A.toList B.toList = false := HCL.out.trans hcb
            go_wp2_with fail
            go_quiet (first | (go_at_call 246; (with_reducible refine Calls.quiet_of (HTK.out _))) | (go_at_call 246; (with_reducible refine Calls.quiet_of (HTY.out _))))
            have HQ := hideO (ord_put (clT_weak (turnV t)) HP.out HS.out (show p ≤ l.length by have := HL.out; omega) HHI.out (by
              have := HPP.out
              exact Or.inr ⟨by omega, by
                have e : l[p - 1]'(by omega) = y := by rw [HY.out]; congr 1; omega
                rw [e]
                exact hcb⟩))
            have G4 := hideO (own_drewN G1.out (q + nq))
            have O4 : Hid (IsO (wo.drewN (q + nq)) g 2 (ints l)) := HO.out.of_heap rfl
            have B4 := hideO (below_drewN GB.out (q + nq))
            have hW : wr.drewN nq = wo.drewN (q + nq) := by rw [HWR.out]; exact World.drewN_drewN _ _ _
            have z4 : g < (wo.drewN (q + nq)).heap.size := hgl
            have zs4 : w.heap.size ≤ (wo.drewN (q + nq)).heap.size := hsz
            rw [hW]
            clear hW
            generalize wo.drewN (q + nq) = W at G4 O4 B4 z4 zs4 ⊢
            have HEM := hideO (Ze.OwnI.empty W)
            have HTA : Hid ((ints l).length = k) := by
              unfold Hid
              rw [ints_len, HL.out]
            have hpc : (p : Int) ≤ (cap : Int) := by omega
            have hpk' : (p : Int) ≤ (k : Int) := by omega
            go_wp2_with (at_builtin; refine wpList_append_own _ rfl (.tmp 33) (.tmp 36) 97 rfl W.heap.size 2 i0 (.int .i64 0) 1 8 Tryz.underlying97 hi0 hz0 hz1 hz2 rfl (by decide) _ 0 [] rfl HEM.out ⟨g, 0, none⟩ p cap ((ints (l.take p)).map (Value.int .i64)) rfl ?len1 ?new1 (own_cells _) (by unfold maxLen; omega) (by omega) (by simp) ?_)
            case len1 => simp [ints_len]; have := HL.out; omega
            case new1 => exact own_news (isO_take (O4.out.below ((Below.refl _ W).alloc (Nat.le_refl _) _) z4) p)
            intro v1 w1 hown1 hgrow1 _
            have HO1 : Hid (OwnI w1 W.heap.size v1 (ints (l.take p))) := by
              have e : (ints (l.take p)).length = p := by simp [ints_len]; have := HL.out; omega
              unfold Hid OwnI
              rw [e]
              exact hown1
            have hb1 : Below W.heap.size W w1 := ((Below.refl W.heap.size W).alloc (Nat.le_refl _) _).grown hgrow1 (by simp) (fun k hk => by simp [Value.ownBlock] at hk; omega)
            have z1 := hb1.size
            have O1 := hideO (O4.out.below hb1 z4)
            have B1 := hideO hb1
            clear hown1 hgrow1 hb1
            have HLT : Hid ((ints (l.take p)).length = p) := by
              unfold Hid
              simp [ints_len]
              have := HL.out
              omega
            go_wp2_with (at_builtin; refine wpList_append_own _ rfl (.tmp 38) (.tmp 40) 97 rfl W.heap.size 2 i0 (.int .i64 0) 1 8 Tryz.underlying97 hi0 hz0 hz1 hz2 rfl (by decide) _ _ _ rfl (Ze.OwnI.alloc HO1.out _) ⟨w1.heap.size, 0, none⟩ 1 1 [.int .i64 (k : Nat)] rfl rfl (one_newI _ _ _) (one_cellI _) (by rw [HLT.out]; unfold maxLen; omega) (by rw [HLT.out]; omega) (by simp; omega) ?_)
            intro v2 w2 hown2 hgrow2 _
            have HO2 : Hid (OwnI w2 W.heap.size v2 (ints (l.take p ++ [k]))) := by
              unfold Hid
              rw [ints_snoc]
              exact In.OwnI.snoc hown2
            have hb2 := In.app_one B1.out z1 (Nat.le_refl _) HO1.out hgrow2
            have z2 := hb2.size
            have O2 := hideO (O4.out.below hb2 z4)
            have B2 := hideO hb2
            clear hown2 hgrow2 hb2 B1 O1
            have HLT2 : Hid ((ints (l.take p ++ [k])).length = p + 1) := by
              unfold Hid
              simp [ints_len]
              have := HL.out
              omega
            have HLD : Hid ((ints (l.drop p)).length = k - p) := by
              unfold Hid
              simp [ints_len, HL.out]
            have HFIN : Hid (∀ v3 w3, w3.ownsRow W.heap.size 2 1 v3 (p + 1 + (k - p)) ((ints (l.take p ++ [k])).map (Value.int .i64) ++ (ints (l.drop p)).map (Value.int .i64)) → OwnI w3 W.heap.size v3 (ints (l.take p ++ [k] ++ l.drop p))) := fun v3 w3 h => by
              have e : ints (l.take p ++ [k] ++ l.drop p) = ints (l.take p ++ [k]) ++ ints (l.drop p) := by simp [ints]
              rw [e]
              apply Ze.OwnI.joined
              rw [HLT2.out, HLD.out]
              exact h
            have HOW2 : Hid (w2.ownsRow W.heap.size 2 1 v2 (p + 1) ((ints (l.take p ++ [k])).map (Value.int .i64))) := by
              have := HO2.out
              unfold OwnI at this
              rw [HLT2.out] at this
              exact this
            have hv2 : v2 ≠ .slice none 0 0 := own_ne HO2.out (by rw [HLT2.out]; omega)
            by_cases hkp : p = k
            · have HD0 : Hid (ints (l.drop p) = []) := by
                unfold Hid
                rw [hkp, ← HL.out, List.drop_length]
                rfl
              subst hkp
              by_cases hcp : cap = p
              · subst hcp
                go_wp2_with (at_builtin; refine wpList_append_own _ rfl (.tmp 42) (.tmp 45) 97 rfl W.heap.size 2 i0 (.int .i64 0) 1 8 Tryz.underlying97 hi0 hz0 hz1 hz2 rfl (by decide) _ _ _ rfl HOW2.out _ 0 _ [] rfl rfl (by intro j u hj; simp at hj) (by intro u hu; simp at hu) (by unfold maxLen; omega) (by omega) (by omega) ?_)
                intro v3 w3 hown3 hgrow3 _
                have HO3 := hideO (HFIN.out v3 w3 (by rw [HD0.out, Nat.sub_self, List.map_nil, List.append_nil]; exact hown3))
                have HN3 := hideO (own_ne HO3.out (by simp [ints_len]; omega))
                have hb3 := hideO (Ze.app_row B2.out z2 (Nat.le_refl _) HO2.out hgrow3)
                clear hown3 hgrow3
                go_wp2_with fail
                go_roundw
                case rel => exact ⟨cap + 1, _, by go_num, by omega, HQ.out.1, HQ.out.2, HO3.out.mono zs4, HN3.out, B4.out.trans (hb3.out.mono zs4)⟩
                case measure => simp [intOf]; omega
              · have hcp1 : ¬ (cap : Int) = (p : Int) := by omega
                have hcp2 : p < cap := by omega
                go_wp2_with (at_builtin; refine wpList_append_own _ rfl (.tmp 42) (.tmp 45) 97 rfl W.heap.size 2 i0 (.int .i64 0) 1 8 Tryz.underlying97 hi0 hz0 hz1 hz2 rfl (by decide) _ _ _ rfl HOW2.out _ 0 _ [] rfl rfl (by intro j u hj; simp at hj) (by intro u hu; simp at hu) (by unfold maxLen; omega) (by omega) (by omega) ?_)
                intro v3 w3 hown3 hgrow3 _
                have HO3 := hideO (HFIN.out v3 w3 (by rw [HD0.out, Nat.sub_self, List.map_nil, List.append_nil]; exact hown3))
                have HN3 := hideO (own_ne HO3.out (by simp [ints_len]; omega))
                have hb3 := hideO (Ze.app_row B2.out z2 (Nat.le_refl _) HO2.out hgrow3)
                clear hown3 hgrow3
                go_wp2_with fail
                go_roundw
                case rel => exact ⟨p + 1, _, by go_num, by omega, HQ.out.1, HQ.out.2, HO3.out.mono zs4, HN3.out, B4.out.trans (hb3.out.mono zs4)⟩
                case measure => simp [intOf]; omega
            · have hpk2 : p < k := by omega
              have hcp0 : ¬ cap = p := by omega
              have hcp1 : ¬ (cap : Int) = (p : Int) := by omega
              obtain ⟨dl, hdl⟩ : ∃ dl, dl = k - p := ⟨_, rfl⟩
              have edl : (k : Int) - (p : Int) = (dl : Int) := by omega
              have edl2 : k - p = dl := hdl.symm
              rw [← hdl] at HFIN HLD
              clear hkp hdl
              go_wp2_with (at_builtin; refine wpList_append_own _ rfl (.tmp 42) (.tmp 45) 97 rfl W.heap.size 2 i0 (.int .i64 0) 1 8 Tryz.underlying97 hi0 hz0 hz1 hz2 rfl (by decide) _ _ _ rfl HOW2.out ⟨g, p, none⟩ dl _ ((ints (l.drop p)).map (Value.int .i64)) rfl ?len3 ?new3 (own_cells _) ?c31 ?c32 (by omega) ?_)
              case len3 => rw [List.length_map, HLD.out, Nat.mul_one]
              case new3 => exact isO_drop O2.out p
              case c31 => have := HLD.out; unfold maxLen; omega
              case c32 => have := HLD.out; omega
              intro v3 w3 hown3 hgrow3 _
              have HO3 := hideO (HFIN.out v3 w3 hown3)
              have HN3 := hideO (own_ne HO3.out (by simp [ints_len]; omega))
              have hb3 := hideO (Ze.app_row B2.out z2 (Nat.le_refl _) HO2.out hgrow3)
              clear hown3 hgrow3
              go_wp2_with fail
              go_roundw
              case rel => exact ⟨k + 1, _, by go_num, by omega, HQ.out.1, HQ.out.2, HO3.out.mono zs4, HN3.out, B4.out.trans (hb3.out.mono zs4)⟩
              case measure => simp [intOf]; omega
        · have hpd : decide ((0 : Int) < (p : Int)) = false := decide_eq_false (by omega)
          have hpn : ¬ (0 : Int) < (p : Int) := by omega
          clear hO2
          go_wp2_with fail
          go_quiet (fail)
          have HQ := hideO (ord_put (clT_weak (turnV t)) HP.out HS.out (show p ≤ l.length by have := HL.out; omega) HHI.out (by exact Or.inl (by omega)))
          have G4 := hideO (own_drewN G1.out (q + nq))
          have O4 : Hid (IsO (wo.drewN (q + nq)) g 2 (ints l)) := HO.out.of_heap rfl
          have B4 := hideO (below_drewN GB.out (q + nq))
          have hW : wr.drewN nq = wo.drewN (q + nq) := by rw [HWR.out]; exact World.drewN_drewN _ _ _
          have z4 : g < (wo.drewN (q + nq)).heap.size := hgl
          have zs4 : w.heap.size ≤ (wo.drewN (q + nq)).heap.size := hsz
          rw [hW]
          clear hW
          generalize wo.drewN (q + nq) = W at G4 O4 B4 z4 zs4 ⊢
          have HEM := hideO (Ze.OwnI.empty W)
          have HTA : Hid ((ints l).length = k) := by
            unfold Hid
            rw [ints_len, HL.out]
          have hpc : (p : Int) ≤ (cap : Int) := by omega
          have hpk' : (p : Int) ≤ (k : Int) := by omega
          go_wp2_with (at_builtin; refine wpList_append_own _ rfl (.tmp 33) (.tmp 36) 97 rfl W.heap.size 2 i0 (.int .i64 0) 1 8 Tryz.underlying97 hi0 hz0 hz1 hz2 rfl (by decide) _ 0 [] rfl HEM.out ⟨g, 0, none⟩ p cap ((ints (l.take p)).map (Value.int .i64)) rfl ?len1 ?new1 (own_cells _) (by unfold maxLen; omega) (by omega) (by simp) ?_)
          case len1 => simp [ints_len]; have := HL.out; omega
          case new1 => exact own_news (isO_take (O4.out.below ((Below.refl _ W).alloc (Nat.le_refl _) _) z4) p)
          intro v1 w1 hown1 hgrow1 _
          have HO1 : Hid (OwnI w1 W.heap.size v1 (ints (l.take p))) := by
            have e : (ints (l.take p)).length = p := by simp [ints_len]; have := HL.out; omega
            unfold Hid OwnI
            rw [e]
            exact hown1
          have hb1 : Below W.heap.size W w1 := ((Below.refl W.heap.size W).alloc (Nat.le_refl _) _).grown hgrow1 (by simp) (fun k hk => by simp [Value.ownBlock] at hk; omega)
          have z1 := hb1.size
          have O1 := hideO (O4.out.below hb1 z4)
          have B1 := hideO hb1
          clear hown1 hgrow1 hb1
          have HLT : Hid ((ints (l.take p)).length = p) := by
            unfold Hid
            simp [ints_len]
            have := HL.out
            omega
          go_wp2_with (at_builtin; refine wpList_append_own _ rfl (.tmp 38) (.tmp 40) 97 rfl W.heap.size 2 i0 (.int .i64 0) 1 8 Tryz.underlying97 hi0 hz0 hz1 hz2 rfl (by decide) _ _ _ rfl (Ze.OwnI.alloc HO1.out _) ⟨w1.heap.size, 0, none⟩ 1 1 [.int .i64 (k : Nat)] rfl rfl (one_newI _ _ _) (one_cellI _) (by rw [HLT.out]; unfold maxLen; omega) (by rw [HLT.out]; omega) (by simp; omega) ?_)
          intro v2 w2 hown2 hgrow2 _
          have HO2 : Hid (OwnI w2 W.heap.size v2 (ints (l.take p ++ [k]))) := by
            unfold Hid
            rw [ints_snoc]
            exact In.OwnI.snoc hown2
          have hb2 := In.app_one B1.out z1 (Nat.le_refl _) HO1.out hgrow2
          have z2 := hb2.size
          have O2 := hideO (O4.out.below hb2 z4)
          have B2 := hideO hb2
          clear hown2 hgrow2 hb2 B1 O1
          have HLT2 : Hid ((ints (l.take p ++ [k])).length = p + 1) := by
            unfold Hid
            simp [ints_len]
            have := HL.out
            omega
          have HLD : Hid ((ints (l.drop p)).length = k - p) := by
            unfold Hid
            simp [ints_len, HL.out]
          have HFIN : Hid (∀ v3 w3, w3.ownsRow W.heap.size 2 1 v3 (p + 1 + (k - p)) ((ints (l.take p ++ [k])).map (Value.int .i64) ++ (ints (l.drop p)).map (Value.int .i64)) → OwnI w3 W.heap.size v3 (ints (l.take p ++ [k] ++ l.drop p))) := fun v3 w3 h => by
            have e : ints (l.take p ++ [k] ++ l.drop p) = ints (l.take p ++ [k]) ++ ints (l.drop p) := by simp [ints]
            rw [e]
            apply Ze.OwnI.joined
            rw [HLT2.out, HLD.out]
            exact h
          have HOW2 : Hid (w2.ownsRow W.heap.size 2 1 v2 (p + 1) ((ints (l.take p ++ [k])).map (Value.int .i64))) := by
            have := HO2.out
            unfold OwnI at this
            rw [HLT2.out] at this
            exact this
          have hv2 : v2 ≠ .slice none 0 0 := own_ne HO2.out (by rw [HLT2.out]; omega)
          by_cases hkp : p = k
          · have HD0 : Hid (ints (l.drop p) = []) := by
              unfold Hid
              rw [hkp, ← HL.out, List.drop_length]
              rfl
            subst hkp
            by_cases hcp : cap = p
            · subst hcp
              go_wp2_with (at_builtin; refine wpList_append_own _ rfl (.tmp 42) (.tmp 45) 97 rfl W.heap.size 2 i0 (.int .i64 0) 1 8 Tryz.underlying97 hi0 hz0 hz1 hz2 rfl (by decide) _ _ _ rfl HOW2.out _ 0 _ [] rfl rfl (by intro j u hj; simp at hj) (by intro u hu; simp at hu) (by unfold maxLen; omega) (by omega) (by omega) ?_)
              intro v3 w3 hown3 hgrow3 _
              have HO3 := hideO (HFIN.out v3 w3 (by rw [HD0.out, Nat.sub_self, List.map_nil, List.append_nil]; exact hown3))
              have HN3 := hideO (own_ne HO3.out (by simp [ints_len]; omega))
              have hb3 := hideO (Ze.app_row B2.out z2 (Nat.le_refl _) HO2.out hgrow3)
              clear hown3 hgrow3
              go_wp2_with fail
              go_roundw
              case rel => exact ⟨cap + 1, _, by go_num, by omega, HQ.out.1, HQ.out.2, HO3.out.mono zs4, HN3.out, B4.out.trans (hb3.out.mono zs4)⟩
              case measure => simp [intOf]; omega
            · have hcp1 : ¬ (cap : Int) = (p : Int) := by omega
              have hcp2 : p < cap := by omega
              go_wp2_with (at_builtin; refine wpList_append_own _ rfl (.tmp 42) (.tmp 45) 97 rfl W.heap.size 2 i0 (.int .i64 0) 1 8 Tryz.underlying97 hi0 hz0 hz1 hz2 rfl (by decide) _ _ _ rfl HOW2.out _ 0 _ [] rfl rfl (by intro j u hj; simp at hj) (by intro u hu; simp at hu) (by unfold maxLen; omega) (by omega) (by omega) ?_)
              intro v3 w3 hown3 hgrow3 _
              have HO3 := hideO (HFIN.out v3 w3 (by rw [HD0.out, Nat.sub_self, List.map_nil, List.append_nil]; exact hown3))
              have HN3 := hideO (own_ne HO3.out (by simp [ints_len]; omega))
              have hb3 := hideO (Ze.app_row B2.out z2 (Nat.le_refl _) HO2.out hgrow3)
              clear hown3 hgrow3
              go_wp2_with fail
              go_roundw
              case rel => exact ⟨p + 1, _, by go_num, by omega, HQ.out.1, HQ.out.2, HO3.out.mono zs4, HN3.out, B4.out.trans (hb3.out.mono zs4)⟩
              case measure => simp [intOf]; omega
          · have hpk2 : p < k := by omega
            have hcp0 : ¬ cap = p := by omega
            have hcp1 : ¬ (cap : Int) = (p : Int) := by omega
            obtain ⟨dl, hdl⟩ : ∃ dl, dl = k - p := ⟨_, rfl⟩
            have edl : (k : Int) - (p : Int) = (dl : Int) := by omega
            have edl2 : k - p = dl := hdl.symm
            rw [← hdl] at HFIN HLD
            clear hkp hdl
            go_wp2_with (at_builtin; refine wpList_append_own _ rfl (.tmp 42) (.tmp 45) 97 rfl W.heap.size 2 i0 (.int .i64 0) 1 8 Tryz.underlying97 hi0 hz0 hz1 hz2 rfl (by decide) _ _ _ rfl HOW2.out ⟨g, p, none⟩ dl _ ((ints (l.drop p)).map (Value.int .i64)) rfl ?len3 ?new3 (own_cells _) ?c31 ?c32 (by omega) ?_)
            case len3 => rw [List.length_map, HLD.out, Nat.mul_one]
            case new3 => exact isO_drop O2.out p
            case c31 => have := HLD.out; unfold maxLen; omega
            case c32 => have := HLD.out; omega
            intro v3 w3 hown3 hgrow3 _
            have HO3 := hideO (HFIN.out v3 w3 hown3)
            have HN3 := hideO (own_ne HO3.out (by simp [ints_len]; omega))
            have hb3 := hideO (Ze.app_row B2.out z2 (Nat.le_refl _) HO2.out hgrow3)
            clear hown3 hgrow3
            go_wp2_with fail
            go_roundw
            case rel => exact ⟨k + 1, _, by go_num, by omega, HQ.out.1, HQ.out.2, HO3.out.mono zs4, HN3.out, B4.out.trans (hb3.out.mono zs4)⟩
            case measure => simp [intOf]; omega
    · obtain rfl : k = t.size := by omega
      go_wp2_with fail
      go_ret
      exact ⟨_, l, rfl, G1.out, ⟨HP.out, HS.out⟩, by simp, GB.out⟩
end Go.Proofs.YtjdlgpnhkfdehaaGreatDoor.So


/- What the specification's FrontBack answers. -/
namespace Go.Proofs.YtjdlgpnhkfdehaaGreatDoor.Fr
open Go.RowKit
open Go.Proofs.YtjdlgpnhkfdehaaGreatDoor.Sh (IsB rowF upd made_row strF)
open Go.Proofs.YtjdlgpnhkfdehaaGreatDoor.Ze (hideZ numsR upTo upTo_yes numsR_of numsR_long numsR_yes nums_spec)
open Go.Proofs.YtjdlgpnhkfdehaaGreatDoor.St (Aft)
open Go.Proofs.YtjdlgpnhkfdehaaGreatDoor.In (Ints)
open Go.Proofs.YtjdlgpnhkfdehaaGreatDoor.Nu (ret_strJ bv own_string app_below)
open Go.Proofs.YtjdlgpnhkfdehaaGreatDoor.Ap (Own0 wpList_append_own0)
def Own0B (w : World) (base : Nat) (v : Value) (l : List UInt8) : Prop := Own0 w base 5 1 v l.length (l.map bv)
theorem own0_string {P : Program} {w : World} {base src dst : TypeId} {v : Value} (l : List UInt8) (h : Own0B w base v l)
  (hs : P.underlying src = some (.slice 5)) (he : P.underlying 5 = some (.int .u8)) (hd : P.underlying dst = some .string) :
  (convert src dst v).run P w = .ok (.string ⟨l.toArray⟩) w := by
 rcases h with ⟨b, rfl, h0, _⟩ | h
 ·obtain rfl : l = [] := List.eq_nil_of_length_eq_zero h0
  exact run_convert_bytes_back w src dst 5 b 0 [] hs he hd (by intro j hj; exact absurd hj (Nat.not_lt_zero j))
 ·exact own_string l h hs he hd
theorem one_newB (W : World) (s : Int) (t : TypeId) : ∀ (j : Nat) (u : Value), [(Value.int .u8) s][j]? = some u → (W.alloc (.cells #[.int .u8 s] t)).cell? ((⟨W.heap.size, 0, none⟩ : Addr).add j) = some u := by
 intro j u hj
 match j, hj with
 | 0, hj => simp at hj; subst hj; simp [Addr.add]
theorem one_cellB (s : Int) : ∀ u ∈ [(Value.int .u8) s], u.oneCell' = true := by
 intro u hu
 simp at hu
 subst hu
 rfl
theorem own0B_snoc {w : World} {base : Nat} {v : Value} {l : List UInt8} {x : Int} (h0 : 0 ≤ x) (h1 : x < 256) (h : w.ownsRow base 5 1 v (l.length + 1) (l.map bv ++ [.int .u8 x])) : Own0B w base v (l ++ [UInt8.ofNat x.toNat]) := by
 refine .inr ?_
 have e : bv (UInt8.ofNat x.toNat) = .int .u8 x := by
  simp [bv]
  omega
 rw [List.length_append, List.map_append, List.map_singleton, e]
 exact h
set_option maxRecDepth 100000 in
set_option maxHeartbeats 1000000 in
theorem frontBack_spec (l : List Int) (a : Option Addr) (cap B : Nat) (w : World) (hi : Ints w B a l) (hB : B ≤ w.heap.size) (hn : l.length ≤ 1048576) :
  Calls Tryz.prog 128 #[.slice a l.length cap] w fun e w' => e = .returned (.string ⟨(fbackR l).toArray⟩) ∧ Below w.heap.size w w' := by
 obtain ⟨i0, hi0, hz0, hz1, hz2⟩ := info_parts Nu.Tryz.infoJ5
 have HS := hideZ (hi.mono hB)
 have HU := hideZ (fun W (hW : Below w.heap.size w W) => nums_spec l 255 a cap w.heap.size W ((hi.mono hB).below hW) hn)
 have hb0 : Below w.heap.size w (w.alloc (.cells #[] 5)) := (Below.refl _ _).alloc (Nat.le_refl _) _
 have HB0 := hideZ hb0
 have HRS := hideZ (row_spec (w.alloc (.cells #[] 5)))
 have zs : (w.alloc (.cells #[] 5)).heap.size = w.heap.size + 1 := by simp
 rw [zs] at HRS
 clear hi hb0 zs
 cases hu : numsR l 255 with
 | false =>
  rw [fbackR_no hu]
  rw [hu] at HU
  clear hu
  generalize l.length = n at HU hn ⊢
  go_enter Tryz.func128, Tryz.ntmps128
  go_wp2_with fail
  refine HRS.out.mono ?_
  rintro e w1 ⟨rfl, hr1, hb1⟩
  have HB1 := hideZ (HB0.out.trans (hb1.mono (by omega)))
  have H0 : Hid (Own0B w1 (w.heap.size + 2) (.slice (some ⟨w.heap.size, 0, none⟩) 0 0) []) := .inl ⟨_, rfl, rfl, rfl⟩
  have hcv := own0_string (P := Tryz.prog) (src := 22) (dst := 9) [] H0.out Tryz.underlying22 Tryz.underlying5 Tryz.underlying9
  clear hr1 hb1
  by_cases h0 : 0 < n
  ·have hd0 : decide ((0 : Int) < (n : Int)) = true := decide_eq_true (by omega)
   go_wp2_with fail
   go_loopw [5, 3] (fun i u wr => i = .int .i64 0 ∧ u = .slice (some ⟨w.heap.size, 0, none⟩) 0 0 ∧ wr = w1) (fun _ _ _ => 0)
   case atStart => exact ⟨rfl, rfl, rfl⟩
   case round =>
    obtain ⟨rfl, rfl, rfl⟩ := hrel
    go_wp2_with fail
    refine (HU.out _ HB1.out).mono ?_
    rintro e w' ⟨rfl, hw⟩
    subst w'
    go_wp2_with fail
    go_ret
    exact ⟨rfl, HB1.out⟩
  ·have hd0 : decide ((0 : Int) < (n : Int)) = false := decide_eq_false (by omega)
   go_wp2_with fail
   go_loopw [5, 3] (fun i u wr => i = .int .i64 0 ∧ u = .slice (some ⟨w.heap.size, 0, none⟩) 0 0 ∧ wr = w1) (fun _ _ _ => 0)
   case atStart => exact ⟨rfl, rfl, rfl⟩
   case round =>
    obtain ⟨rfl, rfl, rfl⟩ := hrel
    go_wp2_with fail
    go_ret
    exact ⟨rfl, HB1.out⟩
 | true =>
  rw [fbackR_yes hu]
  have HUP := hideZ (upTo_yes (numsR_yes hu).2)
  have hlong := (numsR_yes hu).1
  rw [hu] at HU
  clear hu
  obtain ⟨n, hln⟩ : ∃ n, n = l.length := ⟨_, rfl⟩
  have HLN := hideZ hln
  rw [← hln] at HU hlong ⊢
  clear hln hn
  go_enter Tryz.func128, Tryz.ntmps128
  go_wp2_with fail
  refine HRS.out.mono ?_
  rintro e w1 ⟨rfl, hr1, hb1⟩
  have HB1 := hideZ (HB0.out.trans (hb1.mono (by omega)))
  have HR1 := hideZ hr1
  have hg1 := hr1.lt
  clear hr1 hb1 HRS
  go_wp2_with fail
  go_loopw [5, 3] (fun i u wr => ∃ k : Nat, i = .int .i64 k ∧ k ≤ n ∧ IsB wr (w.heap.size + 1) 5 .u8 256 (kst (l.take k)).2 ∧ Own0B wr (w.heap.size + 2) u (kst (l.take k)).1 ∧ Below w.heap.size w wr) (fun i _ _ => n - (intOf i).toNat)
  case atStart => exact ⟨0, rfl, Nat.zero_le _, HR1.out, .inl ⟨_, rfl, rfl, rfl⟩, HB1.out⟩
  case round =>
   obtain ⟨k, rfl, hk, hrow, hown, hbel⟩ := hrel
   obtain ⟨hfull, hlen⟩ := kst_full l HUP.out k (by have := HLN.out; omega)
   have R1 := hideZ hrow
   have O1 := hideZ hown
   have GB := hideZ hbel
   have hgs := hrow.lt
   clear hbel
   by_cases hlt : k < n
   ·have hd0 : decide ((k : Int) < (n : Int)) = true := decide_eq_true (by omega)
    have hkl : k < l.length := by rw [← HLN.out]; exact hlt
    obtain ⟨b, off, rfl, hb, hc⟩ := (HS.out.below GB.out).some (by omega)
    have ci := hc k hkl
    have HC : Hid (∀ W : World, Below w.heap.size w W → W.cell? ⟨b, off + k, none⟩ = some (.int .i64 l[k])) := fun W hW => by
     obtain ⟨b', off', e1, _, hc'⟩ := ((HS.out.below hW).some (by omega : 0 < l.length))
     cases e1
     exact hc' k hkl
    have hx255 := HUP.out _ (List.getElem_mem hkl)
    have HM := hideZ (kst_more hkl)
    obtain ⟨x, hx⟩ : ∃ x, x = l[k] := ⟨_, rfl⟩
    rw [← hx] at ci hx255 HM HC
    obtain ⟨p, rfl⟩ : ∃ p : Nat, x = p := ⟨x.toNat, by omega⟩
    have hp : p < 256 := by omega
    have hfp := hfull.2 p hp
    rw [Int.toNat_natCast] at HM
    obtain ⟨f, hf⟩ : ∃ f, f = (kst (l.take k)).2 := ⟨_, rfl⟩
    obtain ⟨bs, hbs⟩ : ∃ bs, bs = (kst (l.take k)).1 := ⟨_, rfl⟩
    rw [← hf] at R1 HM hrow hfp
    rw [← hbs] at O1 HM hlen hown
    have c1 := hrow.cell (j := p) hp
    obtain ⟨y, hy⟩ : ∃ y, y = f p := ⟨_, rfl⟩
    rw [← hy] at c1 hfp HM
    have HFP := hideZ hfp
    have HL := hideZ hlen
    clear hc hx hf hbs hrow hown hfull hlen hy hfp
    go_wp2_with fail
    refine (HU.out _ GB.out).mono ?_
    rintro e w' ⟨rfl, hw⟩
    subst w'
    go_wp2_with (at_builtin; refine wpList_append_own0 _ rfl (.tmp 18) (.tmp 26) 22 rfl (w.heap.size + 2) 5 i0 (.int .u8 0) 1 1 Tryz.underlying22 hi0 hz0 hz1 hz2 rfl (by decide) _ bs.length (bs.map bv) rfl (Own0.alloc O1.out _) ⟨wr.heap.size, 0, none⟩ 1 1 [.int .u8 y] rfl rfl (one_newB _ _ _) (one_cellB _) (by decide) (by unfold maxLen; have := HL.out; omega) (by have := HL.out; omega) (by simp; omega) ?_)
    intro v' w5 hown' hb5
    have N5 := hideZ (own0B_snoc HFP.out.1 HFP.out.2 hown')
    have ba : Below (w.heap.size + 2) wr w5 := ((Below.refl (w.heap.size + 2) wr).alloc (by omega) _).trans (hb5 _ (Nat.le_refl _))
    have R5 := hideZ (R1.out.below ba (by omega))
    have B5 := hideZ (GB.out.trans (ba.mono (by omega)))
    have c5 := HC.out w5 B5.out
    have HFS := hideZ (front_spec (w.heap.size + 1) p 256 5 f w5 R5.out hp)
    have z5 := ba.size
    clear hown' hb5 ba ci c1
    go_wp2_with fail
    refine HFS.out.mono ?_
    rintro e w6 ⟨rfl, hr6, ha6⟩
    have R6 := hideZ hr6
    have N6 := hideZ (N5.out.keep (fun j hj1 hj2 => ha6.2.2.2.2 j hj2 (by omega)))
    have B6 := hideZ (Aft.below B5.out ha6 (by omega) (by omega))
    clear hr6 ha6
    go_wp2_with fail
    go_roundw
    case rel => exact ⟨k + 1, by go_num, by omega, by rw [HM.out]; exact R6.out, by rw [HM.out]; exact N6.out, B6.out⟩
    case measure => simp [intOf]; omega
   ·have hd0 : decide ((k : Int) < (n : Int)) = false := decide_eq_false (by omega)
    obtain rfl : k = n := by omega
    have HT : Hid (l.take k = l) := by
     unfold Hid
     rw [HLN.out, List.take_length]
    rw [HT.out] at hown
    have hcv := own0_string (P := Tryz.prog) (src := 22) (dst := 9) _ hown Tryz.underlying22 Tryz.underlying5 Tryz.underlying9
    clear hrow hown hfull hlen
    go_wp2_with fail
    go_ret
    exact ⟨rfl, GB.out⟩
end Go.Proofs.YtjdlgpnhkfdehaaGreatDoor.Fr


/- What the specification's Bwt answers. -/
namespace Go.Proofs.YtjdlgpnhkfdehaaGreatDoor.So
open Go.RowKit Go.Sort Go.Proofs
open Go.Proofs.YtjdlgpnhkfdehaaGreatDoor.Sh (bt bt_get bt_lt strF IsB made_row)
open Go.Proofs.YtjdlgpnhkfdehaaGreatDoor.In (OwnI Ints)
open Go.Proofs.YtjdlgpnhkfdehaaGreatDoor.Nu (bv)
open Go.Proofs.YtjdlgpnhkfdehaaGreatDoor.Ap (Own0 wpList_append_own0)
open Go.Proofs.YtjdlgpnhkfdehaaGreatDoor.Fr (Own0B own0_string one_newB one_cellB own0B_snoc)
def blB (t : ByteArray) (f : Nat → Nat) (k : Nat) : List UInt8 := (List.range k).map fun j => UInt8.ofNat (lastB t (f j))
theorem blB_len (t : ByteArray) (f : Nat → Nat) (k : Nat) : (blB t f k).length = k := by simp [blB]
theorem blB_snoc (t : ByteArray) (f : Nat → Nat) (k : Nat) : blB t f (k + 1) = blB t f k ++ [UInt8.ofNat (((lastB t (f k) : Nat) : Int)).toNat] := by
 unfold blB
 rw [List.range_succ, List.map_append]
 rfl
set_option maxRecDepth 100000 in
set_option maxHeartbeats 1000000 in
theorem l05Bwt_spec (t : ByteArray) (w : World) (ht : t.size ≤ 48) :
  Calls Tryz.prog 170 #[.string t] w fun e w' => e = .returned (.tuple #[.string (bwtT t), .int .i64 (bwtA t : Nat)]) ∧ Below w.heap.size w w' := by
 obtain ⟨i0, hi0, hz0, hz1, hz2⟩ := info_parts Nu.Tryz.infoJ5
 have HOS := hideO (order_spec t w ht)
 go_enter Tryz.func170, Tryz.ntmps170
 go_wp2_with fail
 refine HOS.out.mono ?_
 rintro e w1 ⟨v, l, rfl, ho, hok, _, hb⟩
 have HE := hideO (bwt_yes ht (fun j hj => rfl) (f := ordF t))
 have hlen : l.length = t.size := by have := hok.1.length_eq; simpa using this
 have HLen := hideO hlen
 have HOR : Hid (∀ k (h : k < l.length), ordF t k = l[k] ∧ l[k] < t.size) := fun k h => ⟨ordF_list hok k h, by
  have := hok.1.mem_iff.1 (List.getElem_mem h)
  simpa using this⟩
 obtain ⟨a, cap, rfl, hcap, hI⟩ := ho.ints
 have HI := hideO hI
 rw [ints_len, hlen] at hcap ⊢
 have HB1 := hideO hb
 have z1 := hb.size
 clear ho hok hb hI hlen
 go_wp2_with fail
 go_loopw [7, 5, 6] (fun i u m wr => ∃ k : Nat, i = .int .i64 k ∧ k ≤ t.size ∧ m = .int .i64 (atK (ordF t) k : Nat) ∧ Own0B wr (w1.heap.size + 1) u (blB t (ordF t) k) ∧ w1.heap.size < wr.heap.size ∧ Below w1.heap.size w1 wr) (fun i _ _ _ => t.size - (intOf i).toNat)
 case atStart => exact ⟨0, rfl, Nat.zero_le _, rfl, .inl ⟨_, rfl, rfl, rfl⟩, by simp, (Below.refl _ _).alloc (Nat.le_refl _) _⟩
 case round =>
  obtain ⟨k, rfl, hk, rfl, hown, hgs, hbel⟩ := hrel
  have O1 := hideO hown
  have GB := hideO hbel
  clear hbel
  by_cases hlt : k < t.size
  ·have hd0 : decide ((k : Int) < (t.size : Int)) = true := decide_eq_true (by omega)
   have hkz : (k : Int) < (t.size : Int) := by omega
   have hkl : k < l.length := by rw [HLen.out]; exact hlt
   have hkl' : k < (ints l).length := by rw [ints_len]; exact hkl
   obtain ⟨b, off, rfl, hb, hc⟩ := (HI.out.below GB.out).some (by omega)
   have ci := hc k hkl'
   have HC : Hid (∀ W : World, Below w1.heap.size w1 W → W.cell? ⟨b, off + k, none⟩ = some (.int .i64 (ints l)[k])) := fun W hW => by
    obtain ⟨b', off', e1, _, hc'⟩ := ((HI.out.below hW).some (by omega : 0 < (ints l).length))
    cases e1
    exact hc' k hkl'
   have ey : (ints l)[k] = ((l[k] : Nat) : Int) := by simp [ints]
   rw [ey] at ci HC
   obtain ⟨ho1, hxt⟩ := HOR.out k hkl
   have HN := hideO (blB_snoc t (ordF t) k)
   have HA := hideO (atK_next (ordF t) k)
   rw [ho1] at HN HA
   obtain ⟨x, hx⟩ : ∃ x, x = l[k] := ⟨_, rfl⟩
   rw [← hx] at ci HC hxt HN HA
   obtain ⟨s, hs⟩ : ∃ s, s = x + t.size - 1 := ⟨_, rfl⟩
   obtain ⟨r, hr⟩ : ∃ r, r = s % t.size := ⟨_, rfl⟩
   have hrt : r < t.size := by rw [hr]; exact Nat.mod_lt _ (by omega)
   have e1 : (x : Int) + (t.size : Int) - 1 = (s : Int) := by omega
   have e2 : (s : Int).tmod (t.size : Int) = (r : Int) := by rw [Int.tmod_eq_emod_of_nonneg (by omega), hr, Int.natCast_emod]
   have hwp : IntKind.i64.wrap (s : Int) = (s : Int) := by rw [IntKind.wrap_i64]; omega
   have hwr : IntKind.i64.wrap (r : Int) = (r : Int) := by rw [IntKind.wrap_i64]; omega
   have hrz : (r : Int) < (t.size : Int) := by omega
   have htn : ¬ ((t.size : Int) = 0) := by omega
   obtain ⟨y, hy, hyt⟩ : ∃ y : UInt8, t[r] = y ∧ y.toNat = lastB t x := ⟨_, rfl, by rw [bt_get]; unfold lastB; rw [hr, hs]⟩
   rw [← hyt] at HN
   have HBL := hideO (blB_len t (ordF t) k)
   obtain ⟨bs, hbs⟩ : ∃ bs, bs = blB t (ordF t) k := ⟨_, rfl⟩
   rw [← hbs] at O1 HN HBL
   obtain ⟨m, hm⟩ : ∃ m, m = atK (ordF t) k := ⟨_, rfl⟩
   rw [← hm] at HA ⊢
   have hmk : m ≤ k := by rw [hm]; exact atK_le _ _
   clear hc ey hown ho1 hx hs hr hyt hbs hm
   have HY := hideO (UInt8.toNat_lt y)
   go_wp2_with (at_builtin; refine wpList_append_own0 _ rfl (.tmp 17) (.tmp 31) 22 rfl (w1.heap.size + 1) 5 i0 (.int .u8 0) 1 1 Tryz.underlying22 hi0 hz0 hz1 hz2 rfl (by decide) _ bs.length (bs.map bv) rfl (Own0.alloc O1.out _) ⟨wr.heap.size, 0, none⟩ 1 1 [.int .u8 (y.toNat : Nat)] rfl rfl (one_newB _ _ _) (one_cellB _) (by decide) (by unfold maxLen; have := HBL.out; omega) (by have := HBL.out; omega) (by simp; omega) ?_)
   intro v' w5 hown' hb5
   have N5 := hideO (own0B_snoc (by omega) (by have := HY.out; omega) hown')
   have ba : Below (w1.heap.size + 1) wr w5 := ((Below.refl (w1.heap.size + 1) wr).alloc (by omega) _).trans (hb5 _ (Nat.le_refl _))
   have B5 := hideO (GB.out.trans (ba.mono (by omega)))
   have c5 := HC.out w5 B5.out
   have z5 := ba.size
   clear hown' hb5 ba ci
   by_cases hx0 : x = 0
   ·subst hx0
    have HM := hideO (HA.out.1 rfl)
    go_wp2_with fail
    go_roundw
    case rel => exact ⟨k + 1, by go_num, by omega, by rw [HM.out], by rw [HN.out]; exact N5.out, by omega, B5.out⟩
    case measure => simp [intOf]; omega
   ·have HM := hideO (HA.out.2 hx0)
    have hxz : ((x : Int) == 0) = false := by simpa using hx0
    go_wp2_with fail
    go_roundw
    case rel => exact ⟨k + 1, by go_num, by omega, by rw [HM.out], by rw [HN.out]; exact N5.out, by omega, B5.out⟩
    case measure => simp [intOf]; omega
  ·have hd0 : decide ((k : Int) < (t.size : Int)) = false := decide_eq_false (by omega)
   obtain rfl : k = t.size := by omega
   have hcv := own0_string (P := Tryz.prog) (src := 22) (dst := 9) _ hown Tryz.underlying22 Tryz.underlying5 Tryz.underlying9
   have HQ : Hid ((⟨(blB t (ordF t) t.size).toArray⟩ : ByteArray) = bwtT t) := HE.out.1.symm
   have HQ2 : Hid (atK (ordF t) t.size = bwtA t) := HE.out.2.1.symm
   rw [HQ.out] at hcv
   rw [HQ2.out]
   have BZ := hideO (HB1.out.trans (GB.out.mono z1))
   clear hown
   go_wp2_with fail
   refine bodyPost_ret (v := .tuple #[.string (bwtT t), .int .i64 (bwtA t : Nat)]) (by simp [results, Tryz.results170, go_sem]) rfl ⟨rfl, BZ.out⟩
end Go.Proofs.YtjdlgpnhkfdehaaGreatDoor.So


/- What the specification's l05Back answers. -/
namespace Go.Proofs.YtjdlgpnhkfdehaaGreatDoor.So
open Go.RowKit Go.Sort Go.Proofs
open Go.Proofs.YtjdlgpnhkfdehaaGreatDoor.Sh (bt bt_get bt_lt strF IsB)
open Go.Proofs.YtjdlgpnhkfdehaaGreatDoor.In (OwnI Ints one_newI one_cellI)
open Go.Proofs.YtjdlgpnhkfdehaaGreatDoor.In.Tryz (infoI2)
open Go.Proofs.YtjdlgpnhkfdehaaGreatDoor.Nu (bv)
open Go.Proofs.YtjdlgpnhkfdehaaGreatDoor.Ap (Own0 wpList_append_own0)
open Go.Proofs.YtjdlgpnhkfdehaaGreatDoor.Fr (Own0B own0_string one_newB one_cellB own0B_snoc)
theorem wrap_byte (y : UInt8) : wrap64 ((y.toNat : Nat) : Int) = ((y.toNat : Nat) : Int) := by
 have h := UInt8.toNat_lt y
 generalize y.toNat = n at h
 simp only [wrap64]
 omega
set_option maxRecDepth 100000 in
set_option maxHeartbeats 2000000 in
theorem l05Back_spec (t : ByteArray) (a : Nat) (w : World) (ht : t.size ≤ 48) (ha : a < t.size ∨ t.size = 0) :
  Calls Tryz.prog 179 #[.string t, .int .i64 a] w fun e w' => e = .returned (.string (backT t a)) ∧ Below w.heap.size w w' := by
 obtain ⟨i0, hi0, hz0, hz1, hz2⟩ := info_parts Nu.Tryz.infoJ5
 obtain ⟨i1, hi1, hy0, hy1, hy2⟩ := info_parts infoI2
 have HW := hideO (Ze.OwnI.empty w)
 go_enter Tryz.func179, Tryz.ntmps179
 go_wp2_with fail
 go_loopw [6, 5] (fun i u wr => ∃ b : Nat, i = .int .i64 b ∧ b ≤ 256 ∧ OwnI wr w.heap.size u (ints (plK t b)) ∧ Below w.heap.size w wr) (fun i _ _ => 256 - (intOf i).toNat)
 case atStart => exact ⟨0, rfl, by omega, HW.out, (Below.refl _ _).alloc (Nat.le_refl _) _⟩
 case round =>
  obtain ⟨b, rfl, hb, hown, hbel⟩ := hrel
  have O1 := hideO hown
  have GB := hideO hbel
  have hsz := hbel.size
  clear hbel
  by_cases hb2 : b < 256
  ·have hbz : (b : Int) < 256 := by omega
   clear hown
   go_wp2_with fail
   go_loopw [7, 5] (fun i u wr => ∃ k : Nat, i = .int .i64 k ∧ k ≤ t.size ∧ OwnI wr w.heap.size u (ints (plK t b ++ plB t b k)) ∧ Below w.heap.size w wr) (fun i _ _ => t.size - (intOf i).toNat)
   case atStart => exact ⟨0, rfl, Nat.zero_le _, by rw [show plK t b ++ plB t b 0 = plK t b by simp [plB]]; exact O1.out, GB.out⟩
   case round =>
    obtain ⟨k, rfl, hk, hown, hbel⟩ := hrel
    have O2 := hideO hown
    have GB2 := hideO hbel
    have hsz2 := hbel.size
    obtain ⟨a', cap', rfl, _, _⟩ := hown.ints
    have HLL : Hid ((ints (plK t b ++ plB t b k)).length ≤ 256 * 48 + 48) := by
     unfold Hid
     rw [ints_len, List.length_append]
     have h1 := plK_len t b
     have h2 := plB_len t b k
     have h3 : b * t.size ≤ 256 * 48 := Nat.mul_le_mul hb ht
     omega
    have HYB := hideO (plB_yes t b k)
    have HNB := hideO (plB_no t b k)
    clear hown hbel
    by_cases hlt : k < t.size
    ·have hkz : (k : Int) < (t.size : Int) := by omega
     obtain ⟨y, hy, hyt⟩ : ∃ y : UInt8, t[k] = y ∧ y.toNat = bt t k := ⟨_, rfl, bt_get _ _ hlt⟩
     by_cases hq : bt t k = b
     ·have hyb : (wrap64 ((y.toNat : Nat) : Int) == (b : Int)) = true := by rw [wrap_byte]; exact beq_iff_eq.2 (by omega)
      have HN : Hid (ints (plK t b ++ plB t b (k + 1)) = ints (plK t b ++ plB t b k) ++ [(k : Int)]) := by
       unfold Hid
       rw [HYB.out hq, ← List.append_assoc, ints_snoc]
      obtain ⟨L, hL⟩ : ∃ L, L = ints (plK t b ++ plB t b k) := ⟨_, rfl⟩
      rw [← hL] at O2 HLL HN ⊢
      clear hyt hq hL HYB HNB
      go_wp2_with (at_builtin; refine wpList_append_own _ rfl (.tmp 27) (.tmp 29) 97 rfl w.heap.size 2 i1 (.int .i64 0) 1 8 Tryz.underlying97 hi1 hy0 hy1 hy2 rfl (by decide) _ L.length (L.map (Value.int .i64)) rfl ?own ⟨wr.heap.size, 0, none⟩ 1 1 [.int .i64 (k : Nat)] rfl rfl (one_newI _ _ _) (one_cellI _) (by unfold maxLen; have := HLL.out; omega) (by have := HLL.out; omega) (by simp; omega) ?_)
      case own => exact Ze.OwnI.alloc O2.out _
      intro v' w5 hown' hgrow _
      have N5 : Hid (OwnI w5 w.heap.size v' (L ++ [(k : Int)])) := In.OwnI.snoc hown'
      have b5 := hideO (In.app_one GB2.out hsz2 (Nat.le_refl _) O2.out hgrow)
      clear hown' hgrow
      go_wp2_with fail
      go_roundw
      case rel => exact ⟨k + 1, by go_num, by omega, by rw [HN.out]; exact N5.out, b5.out⟩
      case measure => simp [intOf]; omega
     ·have hyb : (wrap64 ((y.toNat : Nat) : Int) == (b : Int)) = false := by rw [wrap_byte]; exact beq_eq_false_iff_ne.2 (by omega)
      have HN := hideO (HNB.out hq)
      clear hyt hq HYB HNB
      go_wp2_with fail
      go_roundw
      case rel => exact ⟨k + 1, by go_num, by omega, by rw [HN.out]; exact O2.out, GB2.out⟩
      case measure => simp [intOf]; omega
    ·obtain rfl : k = t.size := by omega
     have HN := hideO (plK_succ t b)
     go_wp2_with fail
     go_roundw
     case rel => exact ⟨b + 1, by go_num, by omega, by rw [HN.out]; exact O2.out, GB2.out⟩
     case measure => simp [intOf]; omega
  ·have hb3 : ¬ (b : Int) < 256 := by omega
   have ho : OwnI wr w.heap.size u5 (ints (pl t)) := by
    have h := hown
    rw [show b = 256 by omega] at h
    exact h
   obtain ⟨g, cap, rfl, hcap, hI⟩ := ho.ints
   have HI := hideO hI
   rw [ints_len, pl_len] at hcap ⊢
   obtain ⟨w1, hw1⟩ : ∃ w1, w1 = wr := ⟨_, rfl⟩
   rw [← hw1] at HI GB hsz ⊢
   clear hown ho hI O1 hw1 hb2 hb
   go_wp2_with fail
   go_loopw [9, 8, 1] (fun i u m wr => ∃ k : Nat, i = .int .i64 k ∧ k ≤ t.size ∧ m = .int .i64 (itR t a k : Nat) ∧ Own0B wr (w1.heap.size + 1) u (blK t a k) ∧ w1.heap.size < wr.heap.size ∧ Below w1.heap.size w1 wr) (fun i _ _ _ => t.size - (intOf i).toNat)
   case atStart => exact ⟨0, rfl, Nat.zero_le _, rfl, .inl ⟨_, rfl, rfl, rfl⟩, by simp, (Below.refl _ _).alloc (Nat.le_refl _) _⟩
   case round =>
    obtain ⟨k, rfl, hk, rfl, hown, hgs, hbel⟩ := hrel
    have O1 := hideO hown
    have GB3 := hideO hbel
    clear hbel
    by_cases hlt : k < t.size
    ·have hd0 : decide ((k : Int) < (t.size : Int)) = true := decide_eq_true (by omega)
     have hkz : (k : Int) < (t.size : Int) := by omega
     have hat : a < t.size := by omega
     have hr1 := itR_lt t a k hat
     have hr2 := itR_lt t a (k + 1) hat
     have e0 : itR t a (k + 1) = plF t (itR t a k) := rfl
     have hpl : (ints (pl t)).length = t.size := by rw [ints_len, pl_len]
     obtain ⟨gb, off, rfl, hb, hc⟩ := (HI.out.below GB3.out).some (by omega)
     have c1 := hc (itR t a k) (by omega)
     have ey : (ints (pl t))[itR t a k]'(by omega) = ((itR t a (k + 1) : Nat) : Int) := by
      rw [e0, ← plF_get t _ (by rw [pl_len]; exact hr1)]
      simp [ints]
     rw [ey] at c1
     have HN := hideO (blK_snoc t a k)
     obtain ⟨p, hp⟩ : ∃ p, p = itR t a k := ⟨_, rfl⟩
     obtain ⟨q, hq⟩ : ∃ q, q = itR t a (k + 1) := ⟨_, rfl⟩
     have HQ := hideO hq
     rw [← hp, ← hq] at c1
     rw [← hq] at hr2 HN
     rw [← hp] at hr1 ⊢
     have hpz : (p : Int) < (t.size : Int) := by omega
     have hqz : (q : Int) < (t.size : Int) := by omega
     obtain ⟨y, hy, hyt⟩ : ∃ y : UInt8, t[q] = y ∧ y.toNat = bt t q := ⟨_, rfl, bt_get _ _ hr2⟩
     rw [← hyt] at HN
     have HBL := hideO (blK_len t a k)
     have HY := hideO (UInt8.toNat_lt y)
     obtain ⟨bs, hbs⟩ : ∃ bs, bs = blK t a k := ⟨_, rfl⟩
     rw [← hbs] at O1 HN HBL
     clear hc ey hown e0 hp hq hyt hbs hpl ha
     go_wp2_with (at_builtin; refine wpList_append_own0 _ rfl (.tmp 42) (.tmp 46) 22 rfl (w1.heap.size + 1) 5 i0 (.int .u8 0) 1 1 Tryz.underlying22 hi0 hz0 hz1 hz2 rfl (by decide) _ bs.length (bs.map bv) rfl (Own0.alloc O1.out _) ⟨wr.heap.size, 0, none⟩ 1 1 [.int .u8 (y.toNat : Nat)] rfl rfl (one_newB _ _ _) (one_cellB _) (by decide) (by unfold maxLen; have := HBL.out; omega) (by have := HBL.out; omega) (by simp; omega) ?_)
     intro v' w5 hown' hb5
     have N5 := hideO (own0B_snoc (by omega) (by have := HY.out; omega) hown')
     have ba : Below (w1.heap.size + 1) wr w5 := ((Below.refl (w1.heap.size + 1) wr).alloc (by omega) _).trans (hb5 _ (Nat.le_refl _))
     have B5 := hideO (GB3.out.trans (ba.mono (by omega)))
     have z5 := ba.size
     clear hown' hb5 ba c1
     go_wp2_with fail
     go_roundw
     case rel => exact ⟨k + 1, by go_num, by omega, by rw [← HQ.out], by rw [HN.out]; exact N5.out, by omega, B5.out⟩
     case measure => simp [intOf]; omega
    ·have hd0 : decide ((k : Int) < (t.size : Int)) = false := decide_eq_false (by omega)
     obtain rfl : k = t.size := by omega
     have hcv := own0_string (P := Tryz.prog) (src := 22) (dst := 9) _ hown Tryz.underlying22 Tryz.underlying5 Tryz.underlying9
     rw [blK_all] at hcv
     have BZ := hideO (GB.out.trans (GB3.out.mono hsz))
     generalize itR t a t.size = m
     clear hown ha
     go_wp2_with fail
     go_ret
     exact ⟨rfl, BZ.out⟩
end Go.Proofs.YtjdlgpnhkfdehaaGreatDoor.So


/- What the specification's Unbwt answers. -/
namespace Go.Proofs.YtjdlgpnhkfdehaaGreatDoor.So
open Go.RowKit Go.Sort Go.Proofs
set_option maxRecDepth 100000 in
set_option maxHeartbeats 8000000 in
theorem unbwt_spec (t : ByteArray) (a : Int) (w : World) (hn : t.size ≤ 1048576) :
  Calls Tryz.prog 127 #[.string t, .int .i64 a] w fun e w' => e = .returned (unR t a) ∧ Below w.heap.size w w' := by
 by_cases hbig : 8000 < t.size
 ·have HV := hideO (unR_big (a := a) hbig)
  go_enter Tryz.func127, Tryz.ntmps127
  go_wp2_with fail
  refine bodyPost_ret (v := tOut ⟨#[]⟩ 0 2) (by simp [results, tOut, Tryz.results127, go_sem]) rfl ⟨by rw [HV.out], ?_⟩
  exact (Below.refl _ _).alloc (Nat.le_refl _) _
 ·have hbig' : ¬ (8000 : Int) < (t.size : Int) := by omega
  obtain ⟨w0, hw0⟩ : ∃ w0, w0 = w.alloc (.cells #[.string ⟨#[]⟩, .int .i64 0, .int .i64 0] 26) := ⟨_, rfl⟩
  have z0 : w0.heap.size = w.heap.size + 1 := by rw [hw0]; simp
  have HR0 : Hid (IsX w0 w.heap.size) := by unfold Hid; rw [hw0]; exact heap_alloc_last w _
  have HB0 : Hid (Below w.heap.size w w0) := by unfold Hid; rw [hw0]; exact (Below.refl _ _).alloc (Nat.le_refl _) _
  have HIP := hideO (block_spec t w0 hn)
  by_cases hlong : 48 < t.size
  ·have HV := hideO (unR_form (a := a) hbig (Or.inl hlong))
   rw [decide_eq_false (by omega : ¬ t.size ≤ 48)] at HIP
   go_enter Tryz.func127, Tryz.ntmps127
   go_wp2_with fail
   rw [← hw0]
   refine HIP.out.mono ?_
   rintro e w' ⟨rfl, hw⟩
   subst w'
   subst hw0
   go_wp2_with fail
   refine bodyPost_ret (v := tOut ⟨#[]⟩ 0 1) (by simp [results, tOut, Tryz.results127, go_sem]) rfl ⟨by rw [HV.out], ?_⟩
   exact (Below.refl _ _).alloc (Nat.le_refl _) _
  ·rw [decide_eq_true (by omega : t.size ≤ 48)] at HIP
   by_cases hbad : a < 0 ∨ ((t.size : Int) ≤ a ∧ 0 < a)
   ·have HV := hideO (unR_form hbig (Or.inr hbad))
    by_cases hneg : a < 0
    ·have hd1 : decide (a < 0) = true := decide_eq_true hneg
     clear hbad
     go_enter Tryz.func127, Tryz.ntmps127
     go_wp2_with fail
     rw [← hw0]
     refine HIP.out.mono ?_
     rintro e w' ⟨rfl, hw⟩
     subst w'
     subst hw0
     go_wp2_with fail
     refine bodyPost_ret (v := tOut ⟨#[]⟩ 0 1) (by simp [results, tOut, Tryz.results127, go_sem]) rfl ⟨by rw [HV.out], ?_⟩
     exact (Below.refl _ _).alloc (Nat.le_refl _) _
    ·have hd1 : decide (a < 0) = false := decide_eq_false hneg
     have hd2 : decide ((t.size : Int) ≤ a) = true := decide_eq_true (by omega)
     have hd3 : decide (0 < a) = true := decide_eq_true (by omega)
     have hd4 : decide (a < (t.size : Int)) = false := decide_eq_false (by omega)
     have p2 : (t.size : Int) ≤ a := by omega
     have p3 : 0 < a := by omega
     clear hbad
     go_enter Tryz.func127, Tryz.ntmps127
     go_wp2_with fail
     rw [← hw0]
     refine HIP.out.mono ?_
     rintro e w' ⟨rfl, hw⟩
     subst w'
     subst hw0
     go_wp2_with fail
     refine bodyPost_ret (v := tOut ⟨#[]⟩ 0 1) (by simp [results, tOut, Tryz.results127, go_sem]) rfl ⟨by rw [HV.out], ?_⟩
     exact (Below.refl _ _).alloc (Nat.le_refl _) _
   ·obtain ⟨m, rfl⟩ : ∃ m : Nat, a = m := ⟨a.toNat, by omega⟩
    have hd1 : decide ((m : Int) < 0) = false := decide_eq_false (by omega)
    have HTB := hideO (l05Back_spec t m w0 (by omega) (by omega))
    have hbz := backT_size t m
    have HBW := hideO (fun W => l05Bwt_spec (backT t m) W (by omega))
    have HY := hideO (fun h => unR_yes (t := t) (a := m) (by omega) (by omega) h)
    have HNO := hideO (fun h => unR_no (t := t) (a := m) (by omega) (by omega) h)
    obtain ⟨b, hb⟩ : ∃ b, b = backT t m := ⟨_, rfl⟩
    obtain ⟨bt', hbt⟩ : ∃ bt', bt' = bwtT b := ⟨_, rfl⟩
    obtain ⟨ba, hba⟩ : ∃ ba, ba = bwtA b := ⟨_, rfl⟩
    rw [← hb] at HTB HBW HY HNO
    rw [← hbt, ← hba] at HBW HY HNO
    have hcase : (¬ t.size ≤ m) ∨ (t.size ≤ m ∧ ¬ 0 < m) := by omega
    clear hb hbt hba hbz hbad
    have HALL : Hid (∀ w1 : World, Below w0.heap.size w0 w1 → ∀ w2 : World, Below w1.heap.size w1 w2 → IsX w2 w.heap.size ∧ Below w.heap.size w w2 ∧ w.heap.size < w2.heap.size) := fun w1 h1 w2 h2 => by
     have z1 := h1.size
     have z2 := h2.size
     exact ⟨(h2.block w.heap.size (by omega)).trans ((h1.block w.heap.size (by omega)).trans HR0.out), (HB0.out.trans (h1.mono (by omega))).trans (h2.mono (by omega)), by omega⟩
    by_cases hq : bt' = t ∧ ba = m
    ·obtain ⟨rfl, rfl⟩ := hq
     have HV := hideO (HY.out ⟨rfl, rfl⟩)
     clear HY HNO
     rcases hcase with p2 | ⟨p2, p3⟩
     ·have q2 : ¬ (bt'.size : Int) ≤ (ba : Int) := by omega
      have d2 : decide (bt'.size ≤ ba) = false := decide_eq_false p2
      have d2z : decide ((bt'.size : Int) ≤ (ba : Int)) = false := decide_eq_false q2
      go_enter Tryz.func127, Tryz.ntmps127
      go_wp2_with fail
      rw [← hw0]
      refine HIP.out.mono ?_
      rintro e w' ⟨rfl, hw⟩
      subst w'
      go_wp2_with fail
      rw [← hw0]
      refine HTB.out.mono ?_
      rintro e w1 ⟨rfl, hb1⟩
      have HB1 := hideO hb1
      clear hb1
      go_wp2_with fail
      refine (HBW.out w1).mono ?_
      rintro e w2 ⟨rfl, hb2⟩
      obtain ⟨hr2, hg2, z2⟩ := HALL.out w1 HB1.out w2 hb2
      have GB := hideO hg2
      obtain ⟨c0, c1, c2, f0⟩ := hr2.cells
      clear hr2 hb2 hg2
      go_wp2_with fail
      refine bodyPost_ret (v := tOut b 0 0) (by simp [results, tOut, Tryz.results127, go_sem, c0, c1, c2]) rfl ⟨by rw [HV.out], ?_⟩
      exact ((GB.out.setCell (Nat.le_refl _) _).setCell (Nat.le_refl _) _).setCell (Nat.le_refl _) _
     ·have q2 : (bt'.size : Int) ≤ (ba : Int) := by omega
      have d2 : decide (bt'.size ≤ ba) = true := decide_eq_true p2
      have d2z : decide ((bt'.size : Int) ≤ (ba : Int)) = true := decide_eq_true q2
      have q3 : ¬ (0 : Int) < (ba : Int) := by omega
      have d3 : decide (0 < ba) = false := decide_eq_false p3
      have d3z : decide ((0 : Int) < (ba : Int)) = false := decide_eq_false q3
      go_enter Tryz.func127, Tryz.ntmps127
      go_wp2_with fail
      rw [← hw0]
      refine HIP.out.mono ?_
      rintro e w' ⟨rfl, hw⟩
      subst w'
      go_wp2_with fail
      rw [← hw0]
      refine HTB.out.mono ?_
      rintro e w1 ⟨rfl, hb1⟩
      have HB1 := hideO hb1
      clear hb1
      go_wp2_with fail
      refine (HBW.out w1).mono ?_
      rintro e w2 ⟨rfl, hb2⟩
      obtain ⟨hr2, hg2, z2⟩ := HALL.out w1 HB1.out w2 hb2
      have GB := hideO hg2
      obtain ⟨c0, c1, c2, f0⟩ := hr2.cells
      clear hr2 hb2 hg2
      go_wp2_with fail
      refine bodyPost_ret (v := tOut b 0 0) (by simp [results, tOut, Tryz.results127, go_sem, c0, c1, c2]) rfl ⟨by rw [HV.out], ?_⟩
      exact ((GB.out.setCell (Nat.le_refl _) _).setCell (Nat.le_refl _) _).setCell (Nat.le_refl _) _
    ·have HV := hideO (HNO.out hq)
     by_cases hqt : bt' = t
     ·subst hqt
      have hqm : ((ba : Int) != (m : Int)) = true := bne_iff_ne.2 (fun e => hq ⟨rfl, by omega⟩)
      clear hq HY HNO
      rcases hcase with p2 | ⟨p2, p3⟩
      ·have q2 : ¬ (bt'.size : Int) ≤ (m : Int) := by omega
       have d2 : decide (bt'.size ≤ m) = false := decide_eq_false p2
       have d2z : decide ((bt'.size : Int) ≤ (m : Int)) = false := decide_eq_false q2
       go_enter Tryz.func127, Tryz.ntmps127
       go_wp2_with fail
       rw [← hw0]
       refine HIP.out.mono ?_
       rintro e w' ⟨rfl, hw⟩
       subst w'
       go_wp2_with fail
       rw [← hw0]
       refine HTB.out.mono ?_
       rintro e w1 ⟨rfl, hb1⟩
       have HB1 := hideO hb1
       clear hb1
       go_wp2_with fail
       refine (HBW.out w1).mono ?_
       rintro e w2 ⟨rfl, hb2⟩
       obtain ⟨hr2, hg2, z2⟩ := HALL.out w1 HB1.out w2 hb2
       have GB := hideO hg2
       obtain ⟨c0, c1, c2, f0⟩ := hr2.cells
       clear hr2 hb2 hg2
       go_wp2_with fail
       refine bodyPost_ret (v := tOut ⟨#[]⟩ 0 3) (by simp [results, tOut, Tryz.results127, go_sem, c0, c1, c2]) rfl ⟨by rw [HV.out], ?_⟩
       exact ((GB.out.setCell (Nat.le_refl _) _).setCell (Nat.le_refl _) _).setCell (Nat.le_refl _) _
      ·have q2 : (bt'.size : Int) ≤ (m : Int) := by omega
       have d2 : decide (bt'.size ≤ m) = true := decide_eq_true p2
       have d2z : decide ((bt'.size : Int) ≤ (m : Int)) = true := decide_eq_true q2
       have q3 : ¬ (0 : Int) < (m : Int) := by omega
       have d3 : decide (0 < m) = false := decide_eq_false p3
       have d3z : decide ((0 : Int) < (m : Int)) = false := decide_eq_false q3
       go_enter Tryz.func127, Tryz.ntmps127
       go_wp2_with fail
       rw [← hw0]
       refine HIP.out.mono ?_
       rintro e w' ⟨rfl, hw⟩
       subst w'
       go_wp2_with fail
       rw [← hw0]
       refine HTB.out.mono ?_
       rintro e w1 ⟨rfl, hb1⟩
       have HB1 := hideO hb1
       clear hb1
       go_wp2_with fail
       refine (HBW.out w1).mono ?_
       rintro e w2 ⟨rfl, hb2⟩
       obtain ⟨hr2, hg2, z2⟩ := HALL.out w1 HB1.out w2 hb2
       have GB := hideO hg2
       obtain ⟨c0, c1, c2, f0⟩ := hr2.cells
       clear hr2 hb2 hg2
       go_wp2_with fail
       refine bodyPost_ret (v := tOut ⟨#[]⟩ 0 3) (by simp [results, tOut, Tryz.results127, go_sem, c0, c1, c2]) rfl ⟨by rw [HV.out], ?_⟩
       exact ((GB.out.setCell (Nat.le_refl _) _).setCell (Nat.le_refl _) _).setCell (Nat.le_refl _) _
     ·have hqe : (bt'.toList == t.toList) = false := by rw [list_eq_iff]; exact decide_eq_false hqt
      clear hq hqt HY HNO
      rcases hcase with p2 | ⟨p2, p3⟩
      ·have q2 : ¬ (t.size : Int) ≤ (m : Int) := by omega
       have d2 : decide (t.size ≤ m) = false := decide_eq_false p2
       have d2z : decide ((t.size : Int) ≤ (m : Int)) = false := decide_eq_false q2
       go_enter Tryz.func127, Tryz.ntmps127
       go_wp2_with fail
       rw [← hw0]
       refine HIP.out.mono ?_
       rintro e w' ⟨rfl, hw⟩
       subst w'
       go_wp2_with fail
       rw [← hw0]
       refine HTB.out.mono ?_
       rintro e w1 ⟨rfl, hb1⟩
       have HB1 := hideO hb1
       clear hb1
       go_wp2_with fail
       refine (HBW.out w1).mono ?_
       rintro e w2 ⟨rfl, hb2⟩
       obtain ⟨hr2, hg2, z2⟩ := HALL.out w1 HB1.out w2 hb2
       have GB := hideO hg2
       obtain ⟨c0, c1, c2, f0⟩ := hr2.cells
       clear hr2 hb2 hg2
       go_wp2_with fail
       refine bodyPost_ret (v := tOut ⟨#[]⟩ 0 3) (by simp [results, tOut, Tryz.results127, go_sem, c0, c1, c2]) rfl ⟨by rw [HV.out], ?_⟩
       exact ((GB.out.setCell (Nat.le_refl _) _).setCell (Nat.le_refl _) _).setCell (Nat.le_refl _) _
      ·have q2 : (t.size : Int) ≤ (m : Int) := by omega
       have d2 : decide (t.size ≤ m) = true := decide_eq_true p2
       have d2z : decide ((t.size : Int) ≤ (m : Int)) = true := decide_eq_true q2
       have q3 : ¬ (0 : Int) < (m : Int) := by omega
       have d3 : decide (0 < m) = false := decide_eq_false p3
       have d3z : decide ((0 : Int) < (m : Int)) = false := decide_eq_false q3
       go_enter Tryz.func127, Tryz.ntmps127
       go_wp2_with fail
       rw [← hw0]
       refine HIP.out.mono ?_
       rintro e w' ⟨rfl, hw⟩
       subst w'
       go_wp2_with fail
       rw [← hw0]
       refine HTB.out.mono ?_
       rintro e w1 ⟨rfl, hb1⟩
       have HB1 := hideO hb1
       clear hb1
       go_wp2_with fail
       refine (HBW.out w1).mono ?_
       rintro e w2 ⟨rfl, hb2⟩
       obtain ⟨hr2, hg2, z2⟩ := HALL.out w1 HB1.out w2 hb2
       have GB := hideO hg2
       obtain ⟨c0, c1, c2, f0⟩ := hr2.cells
       clear hr2 hb2 hg2
       go_wp2_with fail
       refine bodyPost_ret (v := tOut ⟨#[]⟩ 0 3) (by simp [results, tOut, Tryz.results127, go_sem, c0, c1, c2]) rfl ⟨by rw [HV.out], ?_⟩
       exact ((GB.out.setCell (Nat.le_refl _) _).setCell (Nat.le_refl _) _).setCell (Nat.le_refl _) _
end Go.Proofs.YtjdlgpnhkfdehaaGreatDoor.So


/- What the specification's ZerosBack answers. -/
namespace Go.Proofs.YtjdlgpnhkfdehaaGreatDoor.Ze
open Go.RowKit
open Go.Proofs.YtjdlgpnhkfdehaaGreatDoor.In (Ints OwnI IsO one_newI one_cellI app_one)
open Go.Proofs.YtjdlgpnhkfdehaaGreatDoor.In.Tryz (infoI2)
theorem min_any (p q : Nat) (w : World) : Calls Tryz.prog 130 #[.int .i64 p, .int .i64 q] w fun e w' => e = .returned (.int .i64 (min p q : Nat)) ∧ w' = w := by
 by_cases h : p < q
 ·have HE : Hid (min p q = p) := by unfold Hid; omega
  rw [HE.out]
  have h' : (p : Int) < q := by omega
  go_enter Tryz.func130, Tryz.ntmps130
  go_wp2_with fail
  go_ret
  exact ⟨rfl, rfl⟩
 ·have HE : Hid (min p q = q) := by unfold Hid; omega
  rw [HE.out]
  have h' : ¬ (p : Int) < q := by omega
  go_enter Tryz.func130, Tryz.ntmps130
  go_wp2_with fail
  go_ret
  exact ⟨rfl, rfl⟩
def Bs (l : List Int) (k : Nat) (lo : List Int) (q : Nat) : Prop :=
 ((bst (l.take k)).1.length ≤ 400 ∧ lo = (bst (l.take k)).1 ∧ q = (bst (l.take k)).2) ∨ (400 < (bst (l.take k)).1.length ∧ 400 < lo.length)
theorem Bs.one {l : List Int} {k : Nat} {lo : List Int} {q : Nat} (h : Bs l k lo q) (hk : k < l.length) (h1 : 1 < l[k]) : Bs l (k + 1) (lo ++ [l[k] - 1]) 1 := by
 have e := bst_one hk h1
 rcases h with ⟨h4, rfl, rfl⟩ | ⟨h4, h5⟩
 ·by_cases h6 : (bst (l.take k)).1.length + 1 ≤ 400
  ·exact .inl ⟨by rw [e]; simpa using h6, by rw [e], by rw [e]⟩
  ·exact .inr ⟨by rw [e]; simp; omega, by simp; omega⟩
 ·exact .inr ⟨by rw [e]; simp; omega, by simp; omega⟩
theorem Bs.zeros {l : List Int} {k : Nat} {lo : List Int} {q j : Nat} (h : Bs l k lo q) (hk : k < l.length) (h1 : ¬ 1 < l[k]) (hj : j ≤ (l[k].toNat + 1) * q) (hs : j = (l[k].toNat + 1) * q ∨ 400 < lo.length + j) :
  Bs l (k + 1) (lo ++ List.replicate j 0) (min 1000 (2 * q)) := by
 have e := bst_zeros hk h1
 have hw := bst_worth l k (by omega)
 have hg := bst_grow hk
 have hl : (bst (l.take (k + 1))).1.length = (bst (l.take k)).1.length + (l[k].toNat + 1) * (bst (l.take k)).2 := by rw [e]; simp
 rcases h with ⟨h4, rfl, rfl⟩ | ⟨h4, h5⟩
 ·by_cases h6 : (bst (l.take k)).1.length + (l[k].toNat + 1) * (bst (l.take k)).2 ≤ 400
  ·have hj2 : j = (l[k].toNat + 1) * (bst (l.take k)).2 := by omega
   refine .inl ⟨by omega, by rw [e, hj2], ?_⟩
   rw [e]
   simp only
   have : (bst (l.take k)).2 ≤ (l[k].toNat + 1) * (bst (l.take k)).2 := Nat.le_mul_of_pos_left _ (by omega)
   omega
  ·refine .inr ⟨by omega, ?_⟩
   rw [List.length_append, List.length_replicate]
   rcases hs with hs | hs <;> omega
 ·refine .inr ⟨by omega, ?_⟩
  rw [List.length_append]
  omega
theorem Bs.done {l : List Int} {lo : List Int} {q : Nat} (h : Bs l l.length lo q) (hn : numsR l 256 = true) : backR l = if 400 < lo.length then [] else lo := by
 unfold Bs at h
 rw [List.take_length] at h
 rcases h with ⟨h4, rfl, rfl⟩ | ⟨h4, h5⟩
 ·rw [backR_yes hn h4, if_neg (by omega)]
 ·rw [if_pos h5]
  exact backR_long (k := l.length) (Nat.le_refl _) (by rw [List.take_length]; exact h4)
set_option maxRecDepth 100000 in
set_option maxHeartbeats 1000000 in
theorem zerosBack_spec (l : List Int) (a : Option Addr) (cap B : Nat) (w : World) (hi : Ints w B a l) (hB : B ≤ w.heap.size) (hn : l.length ≤ 1048576) :
    Calls Tryz.prog 129 #[.slice a l.length cap] w fun e w' => ∃ v, e = .returned v ∧ OwnI w' w.heap.size v (backR l) ∧ Below w.heap.size w w' := by
  obtain ⟨i0, hi0, hz0, hz1, hz2⟩ := info_parts infoI2
  have hb0 : Below w.heap.size w (w.alloc (.cells #[] 2)) := (Below.refl _ _).alloc (Nat.le_refl _) _
  have HU := hideZ (nums_spec l 256 a cap w.heap.size (w.alloc (.cells #[] 2)) ((hi.mono hB).below hb0) hn)
  have HW := hideZ (OwnI.empty w)
  have HB0 := hideZ hb0
  cases hu : numsR l 256 with
  | false =>
    rw [backR_no hu]
    rw [hu] at HU
    clear hi hu hb0
    generalize l.length = n at HU hn ⊢
    go_enter Tryz.func129, Tryz.ntmps129
    go_wp2_with fail
    refine HU.out.mono ?_
    rintro e w' ⟨rfl, hw⟩
    subst w'
    go_wp2_with fail
    go_ret
    exact ⟨_, rfl, HW.out, HB0.out⟩
  | true =>
    have HNR := hideZ hu
    have HUP := hideZ (upTo_yes (numsR_yes hu).2)
    have hlong := (numsR_yes hu).1
    rw [hu] at HU
    have HS := hideZ (hi.mono hB)
    clear hi hu hb0
    obtain ⟨n, hln⟩ : ∃ n, n = l.length := ⟨_, rfl⟩
    have HLN := hideZ hln
    rw [← hln] at HU hlong ⊢
    clear hln hn
    go_enter Tryz.func129, Tryz.ntmps129
    go_wp2_with fail
    refine HU.out.mono ?_
    rintro e w' ⟨rfl, hw⟩
    subst w'
    go_wp2_with fail
    go_loopw [5, 3, 4] (fun i u m wr => ∃ (k q : Nat) (lo : List Int), i = .int .i64 k ∧ m = .int .i64 q ∧ k ≤ n ∧ q ≤ 1000 ∧ lo.length ≤ 401 + k ∧ Bs l k lo q ∧ OwnI wr w.heap.size u lo ∧ Below w.heap.size w wr) (fun i _ _ _ => n - (intOf i).toNat)
    case atStart => exact ⟨0, 1, [], rfl, rfl, Nat.zero_le _, by omega, by simp, .inl ⟨by simp [bst], rfl, rfl⟩, HW.out, HB0.out⟩
    case round =>
      obtain ⟨k, q, lo, rfl, rfl, hk, hq, h400, hbs, hown, hbel⟩ := hrel
      have GB := hideZ hbel
      have HBS := hideZ hbs
      have hsz := hbel.size
      have G1 := hideZ hown
      obtain ⟨a', cap', rfl, _, _⟩ := hown.ints
      clear hown hbel hbs
      by_cases hlt : k < n
      · have hkl : k < l.length := by rw [← HLN.out]; exact hlt
        obtain ⟨b, off, rfl, hb, hc⟩ := (HS.out.below GB.out).some (by omega)
        have ci := hc k hkl
        have hx256 := HUP.out _ (List.getElem_mem hkl)
        have HC : Hid (∀ W : World, Below w.heap.size w W → W.cell? ⟨b, off + k, none⟩ = some (.int .i64 l[k])) := fun W hW => by
          obtain ⟨b', off', e1, _, hc'⟩ := ((HS.out.below hW).some (by omega : 0 < l.length))
          cases e1
          exact hc' k hkl
        obtain ⟨x, hx⟩ : ∃ x, x = l[k] := ⟨_, rfl⟩
        have HX := hideZ hx
        rw [← hx] at ci hx256 HC
        clear hc hx
        by_cases h0 : 1 < x
        · have HZ1 : Hid (Bs l (k + 1) (lo ++ [x - 1]) 1) := by
            unfold Hid
            rw [HX.out]
            exact HBS.out.one hkl (by rw [← HX.out]; exact h0)
          go_wp2_with (at_builtin; refine wpList_append_own _ rfl (.tmp 23) (.tmp 29) 97 rfl w.heap.size 2 i0 (.int .i64 0) 1 8 Tryz.underlying97 hi0 hz0 hz1 hz2 rfl (by decide) _ _ _ rfl (OwnI.alloc G1.out _) ⟨wr.heap.size, 0, none⟩ 1 1 [.int .i64 (x - 1)] rfl rfl (one_newI _ _ _) (one_cellI _) (by unfold maxLen; omega) (by omega) (by simp; omega) ?_)
          intro v' w6 hown' hgrow _
          have N6 := hideZ (OwnI.snoc hown')
          have b6 := hideZ (app_one GB.out (by omega) (Nat.le_refl _) G1.out hgrow)
          clear hown' hgrow
          go_wp2_with fail
          go_roundw
          case rel => exact ⟨k + 1, 1, lo ++ [x - 1], by go_num, rfl, by omega, by omega, by simp; omega, HZ1.out, N6.out, b6.out⟩
          case measure => simp [intOf]; omega
        · obtain ⟨xn, rfl⟩ : ∃ xn : Nat, x = xn := ⟨x.toNat, by omega⟩
          obtain ⟨mm, hmm⟩ : ∃ mm, mm = (xn + 1) * q := ⟨_, rfl⟩
          have hm8 : mm ≤ 2000 := by
            have : xn = 0 ∨ xn = 1 := by omega
            rcases this with rfl | rfl <;> omega
          have hmul : (q : Int) * ((xn : Int) + 1) = (mm : Int) := by rw [hmm, Int.mul_comm]; simp
          have HST : Hid (∀ j, j ≤ mm → (j = mm ∨ 400 < lo.length + j) → Bs l (k + 1) (lo ++ List.replicate j 0) (min 1000 (2 * q))) := fun j h1 h2 => by
            have e : l[k].toNat = xn := by rw [← HX.out]; rfl
            exact HBS.out.zeros hkl (by rw [← HX.out]; exact h0) (by rw [e, ← hmm]; exact h1) (by rw [e, ← hmm]; exact h2)
          clear hmm HBS
          obtain ⟨nl, hnl⟩ : ∃ nl, nl = lo.length := ⟨_, rfl⟩
          have HNL := hideZ hnl
          rw [← hnl] at h400 ⊢
          clear hnl
          go_wp2_with fail
          go_loopw [6, 3] (fun i u wr2 => ∃ j : Nat, i = .int .i64 j ∧ j ≤ mm ∧ (j = 0 ∨ nl + j ≤ 401) ∧ OwnI wr2 w.heap.size u (lo ++ List.replicate j 0) ∧ Below w.heap.size w wr2) (fun i _ _ => mm - (intOf i).toNat)
          case atStart => exact ⟨0, rfl, Nat.zero_le _, .inl rfl, by simpa [HNL.out] using G1.out, GB.out⟩
          case round =>
            obtain ⟨j, rfl, hj, hj4, hown2, hbel2⟩ := hrel
            have GB2 := hideZ hbel2
            have z2 := hbel2.size
            have c2 := HC.out _ hbel2
            obtain ⟨l2, hl2⟩ : ∃ l2, l2 = lo ++ List.replicate j 0 := ⟨_, rfl⟩
            have hll : l2.length = nl + j := by rw [hl2, List.length_append, List.length_replicate, HNL.out]
            rw [← hl2] at hown2
            have G2 := hideZ hown2
            have HL2 := hideZ hl2
            obtain ⟨a2, cap2, rfl, _, _⟩ := hown2.ints
            rw [hll] at G2 ⊢
            have HLL := hideZ hll
            clear hown2 hbel2 hl2 hll ci
            by_cases hjm : j < mm
            · by_cases h4 : nl + j ≤ 400
              · have hg1 : decide ((j : Int) < (mm : Int)) = true := decide_eq_true (by omega)
                have hg2 : decide ((((nl + j : Nat) : Int)) ≤ 400) = true := decide_eq_true (by omega)
                go_wp2_with (at_builtin; refine wpList_append_own _ rfl (.tmp 47) (.tmp 48) 97 rfl w.heap.size 2 i0 (.int .i64 0) 1 8 Tryz.underlying97 hi0 hz0 hz1 hz2 rfl (by decide) _ _ (l2.map (Value.int .i64)) rfl (by have := OwnI.alloc (l := l2) (by exact G2.out) (Obj.cells #[Value.int .i64 0] 2); unfold OwnI at this; rw [HLL.out] at this; exact this) ⟨wr.heap.size, 0, none⟩ 1 1 [.int .i64 0] rfl rfl (one_newI _ _ _) (one_cellI _) (by unfold maxLen; omega) (by omega) (by simp; omega) ?_)
                intro v' w6 hown' hgrow _
                have N6 : Hid (OwnI w6 w.heap.size v' (lo ++ List.replicate (j + 1) 0)) := by
                  have e : lo ++ List.replicate (j + 1) 0 = l2 ++ [0] := by rw [HL2.out, List.append_assoc]; congr 1; exact List.replicate_succ'
                  rw [e]
                  apply OwnI.snoc
                  rw [HLL.out]
                  exact hown'
                have b6 := hideZ (app_one GB2.out (by omega) (Nat.le_refl _) G2.out hgrow)
                clear hown' hgrow
                go_wp2_with fail
                go_roundw
                case rel => exact ⟨j + 1, by go_num, by omega, .inr (by omega), N6.out, b6.out⟩
                case measure => simp [intOf]; omega
              · have hg1 : decide ((j : Int) < (mm : Int)) = true := decide_eq_true (by omega)
                have hg2 : decide ((((nl + j : Nat) : Int)) ≤ 400) = false := decide_eq_false (by omega)
                have HB1 : Hid (Bs l (k + 1) l2 (min 1000 (2 * q))) := by
                  unfold Hid
                  rw [HL2.out]
                  exact HST.out j hj (.inr (by have := HNL.out; omega))
                have HMN := hideZ (fun W => min_any 1000 (2 * q) W)
                have hmn : min 1000 (2 * q) ≤ 1000 := Nat.min_le_left _ _
                generalize min 1000 (2 * q) = q2 at HMN HB1 hmn
                go_wp2_with fail
                refine (HMN.out wr).mono ?_
                rintro e w' ⟨rfl, hw⟩
                subst w'
                go_wp2_with fail
                go_roundw
                case rel => exact ⟨k + 1, q2, l2, by go_num, rfl, by omega, by omega, by rw [HLL.out]; omega, HB1.out, G2.out, GB2.out⟩
                case measure => simp [intOf]; omega
            · have hg1 : decide ((j : Int) < (mm : Int)) = false := decide_eq_false (by omega)
              have HB1 : Hid (Bs l (k + 1) l2 (min 1000 (2 * q))) := by
                unfold Hid
                rw [HL2.out]
                exact HST.out j hj (.inl (by omega))
              have HMN := hideZ (fun W => min_any 1000 (2 * q) W)
              have hmn : min 1000 (2 * q) ≤ 1000 := Nat.min_le_left _ _
              generalize min 1000 (2 * q) = q2 at HMN HB1 hmn
              go_wp2_with fail
              refine (HMN.out wr).mono ?_
              rintro e w' ⟨rfl, hw⟩
              subst w'
              go_wp2_with fail
              go_roundw
              case rel => exact ⟨k + 1, q2, l2, by go_num, rfl, by omega, by omega, by rw [HLL.out]; omega, HB1.out, G2.out, GB2.out⟩
              case measure => simp [intOf]; omega
      · have hkn : k = l.length := by have := HLN.out; omega
        have HE := hideZ (Bs.done (by rw [← hkn]; exact HBS.out) HNR.out)
        clear hkn
        by_cases h4 : 400 < lo.length
        · have h4' : (400 : Int) < (lo.length : Int) := by omega
          rw [if_pos h4] at HE
          have HW2 := hideZ ((OwnI.empty wr).mono hsz)
          have HB2 := hideZ (GB.out.alloc hsz (.cells #[] 2))
          go_wp2_with fail
          go_ret
          exact ⟨_, rfl, by rw [HE.out]; exact HW2.out, HB2.out⟩
        · have h4' : ¬ (400 : Int) < (lo.length : Int) := by omega
          rw [if_neg h4] at HE
          go_wp2_with fail
          go_ret
          exact ⟨_, rfl, by rw [HE.out]; exact G1.out, GB.out⟩
end Go.Proofs.YtjdlgpnhkfdehaaGreatDoor.Ze

