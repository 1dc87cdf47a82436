/- Texts put together: FrontOS, ZeroSpec2, PkSpec, UnSpec, UnRead, UnIs, UnImpl. -/
import Derived.Test.YtjdlgpnhkfdehaaGreatDoorFo45
import Derived.Test.YtjdlgpnhkfdehaaGreatDoorFo19
import Derived.Test.YtjdlgpnhkfdehaaGreatDoorFo36
import Derived.Test.YtjdlgpnhkfdehaaGreatDoorFo44
import Derived.Lib.QuietBelow
import Derived.Test.YtjdlgpnhkfdehaaGreatDoorFo42
import Derived.Test.YtjdlgpnhkfdehaaGreatDoorFo37
import Derived.Test.YtjdlgpnhkfdehaaGreatDoorFo32
/- What the specification's FrontOf answers. -/
namespace Go.Proofs.YtjdlgpnhkfdehaaGreatDoor.Fr
open Go.RowKit
open Go.Proofs.YtjdlgpnhkfdehaaGreatDoor.Sh (IsB rowF upd made_row bt bt_get)
open Go.Proofs.YtjdlgpnhkfdehaaGreatDoor.Ze (hideZ)
open Go.Proofs.YtjdlgpnhkfdehaaGreatDoor.St (Aft)
open Go.Proofs.YtjdlgpnhkfdehaaGreatDoor.In (Ints IsI OwnI one_newI one_cellI)
open Go.Proofs.YtjdlgpnhkfdehaaGreatDoor.In.Tryz (infoI2)
open Go.Proofs.YtjdlgpnhkfdehaaGreatDoor.Ap (Own0 wpList_append_own0)
def Own0I (w : World) (lit base : Nat) (v : Value) (l : List Int) : Prop :=
 w.heap[lit]? = some (.cells #[] 2 (0, 0)) ∧ ((v = .slice (some ⟨lit, 0, none⟩) 0 0 ∧ l = []) ∨ OwnI w base v l)
theorem Own0I.own0 {w : World} {lit base : Nat} {v : Value} {l : List Int} (h : Own0I w lit base v l) : Own0 w base 2 1 v l.length (l.map (Value.int .i64)) := by
 rcases h.2 with ⟨rfl, rfl⟩ | h
 ·exact .inl ⟨_, rfl, rfl, rfl⟩
 ·exact .inr h
theorem Own0I.done {w : World} {lit base : Nat} {v : Value} {l : List Int} (h : Own0I w lit base v l) (hb : lit ≤ base) : OwnI w lit v l := by
 obtain ⟨he, ⟨rfl, rfl⟩ | h⟩ := h
 ·exact ⟨rfl, .inr ⟨lit, 0, #[], rfl, Nat.le_refl _, he, Nat.le_refl _, by decide, rfl, rfl⟩⟩
 ·exact h.mono hb
theorem Own0I.keep {w w' : World} {lit base : Nat} {v : Value} {l : List Int} (h : Own0I w lit base v l) (hl : w'.heap[lit]? = w.heap[lit]?) (b : ∀ k, base ≤ k → k < w.heap.size → w'.heap[k]? = w.heap[k]?) : Own0I w' lit base v l := by
 refine ⟨hl.trans h.1, ?_⟩
 rcases h.2 with h | ⟨hl, h⟩
 ·exact .inl h
 ·refine .inr ⟨hl, ?_⟩
  rcases h with h | ⟨g, cap, cur, hv, hg, hb, rest⟩
  ·exact .inl h
  ·exact .inr ⟨g, cap, cur, hv, hg, by rw [b g hg (Array.getElem?_eq_some_iff.1 hb).1]; exact hb, rest⟩
set_option maxRecDepth 100000 in
set_option maxHeartbeats 1000000 in
theorem frontOf_spec (t : ByteArray) (w : World) (hn : t.size ≤ 1048576) :
  Calls Tryz.prog 172 #[.string t] w fun e w' => ∃ v, e = .returned v ∧ OwnI w' w.heap.size v (frontR t.data.toList) ∧ Below w.heap.size w w' := by
 obtain ⟨i0, hi0, hz0, hz1, hz2⟩ := info_parts infoI2
 have hdl : t.data.toList.length = t.size := by simp
 have HB0 : Hid (Below w.heap.size w (w.alloc (.cells #[] 2))) := (Below.refl _ _).alloc (Nat.le_refl _) _
 have HRS := hideZ (row_spec (w.alloc (.cells #[] 2)))
 have HE0 : Hid ((w.alloc (.cells #[] 2)).heap[w.heap.size]? = some (.cells #[] 2 (0, 0))) := heap_alloc_last w _
 have zs : (w.alloc (.cells #[] 2)).heap.size = w.heap.size + 1 := by simp
 rw [zs] at HRS
 clear zs
 by_cases hlong : 400 < t.size
 ·rw [frontR_no (by omega)]
  clear hdl
  have hd4 : decide ((t.size : Int) ≤ 400) = false := decide_eq_false (by omega)
  have hd0 : decide ((0 : Int) < (t.size : Int)) = true := decide_eq_true (by omega)
  go_enter Tryz.func172, Tryz.ntmps172
  go_wp2_with fail
  refine HRS.out.mono ?_
  rintro e w1 ⟨rfl, hr1, hb1⟩
  have HB1 := hideZ (HB0.out.trans (hb1.mono (by omega)))
  have HV : Hid (Own0I w1 w.heap.size (w.heap.size + 2) (.slice (some ⟨w.heap.size, 0, none⟩) 0 0) []) := ⟨(hb1.block _ (by omega)).trans HE0.out, .inl ⟨rfl, rfl⟩⟩
  clear hr1 hb1
  go_wp2_with fail
  go_loopw [5, 3] (fun i u wr => i = .int .i64 0 ∧ u = .slice (some ⟨w.heap.size, 0, none⟩) 0 0 ∧ wr = w1) (fun _ _ _ => 0)
  case atStart => exact ⟨rfl, rfl, rfl⟩
  case round =>
   obtain ⟨rfl, rfl, rfl⟩ := hrel
   go_wp2_with fail
   go_ret
   exact ⟨_, rfl, HV.out.done (by omega), HB1.out⟩
 ·rw [frontR_yes (by omega)]
  have hd4 : decide ((t.size : Int) ≤ 400) = true := decide_eq_true (by omega)
  have HDL := hideZ hdl
  clear hdl
  go_enter Tryz.func172, Tryz.ntmps172
  go_wp2_with fail
  refine HRS.out.mono ?_
  rintro e w1 ⟨rfl, hr1, hb1⟩
  have HB1 := hideZ (HB0.out.trans (hb1.mono (by omega)))
  have HV : Hid (Own0I w1 w.heap.size (w.heap.size + 2) (.slice (some ⟨w.heap.size, 0, none⟩) 0 0) []) := ⟨(hb1.block _ (by omega)).trans HE0.out, .inl ⟨rfl, rfl⟩⟩
  have HR1 := hideZ hr1
  clear hr1 hb1 HRS HE0
  obtain ⟨l, hl⟩ : ∃ l, l = t.data.toList := ⟨_, rfl⟩
  rw [← hl] at HDL
  have HL := hideZ hl
  clear hl
  go_wp2_with fail
  go_loopw [5, 3] (fun i u wr => ∃ k : Nat, i = .int .i64 k ∧ k ≤ t.size ∧ IsB wr (w.heap.size + 1) 5 .u8 256 (fst' (l.take k)).2 ∧ Own0I wr w.heap.size (w.heap.size + 2) u (fst' (l.take k)).1 ∧ Below w.heap.size w wr) (fun i _ _ => t.size - (intOf i).toNat)
  case atStart => exact ⟨0, rfl, Nat.zero_le _, HR1.out, HV.out, HB1.out⟩
  case round =>
   obtain ⟨k, rfl, hk, hrow, hown, hbel⟩ := hrel
   obtain ⟨hfull, hlen⟩ := fst_full l k (by have := HDL.out; omega)
   have R1 := hideZ hrow
   have O1 := hideZ hown
   have GB := hideZ hbel
   have hgs := hrow.lt
   clear hbel
   by_cases hlt : k < t.size
   ·have hd0 : decide ((k : Int) < (t.size : Int)) = true := decide_eq_true (by omega)
    obtain ⟨hkl', hget⟩ := list_get t k hlt
    have hkl : k < l.length := by rw [HDL.out]; exact hlt
    have hge : l[k] = t[k] := by
     have := HL.out
     subst this
     exact hget
    have HM := hideZ (fst_more hkl)
    rw [hge] at HM
    obtain ⟨c, hc⟩ : ∃ c : UInt8, t[k] = c := ⟨_, rfl⟩
    rw [hc] at HM
    obtain ⟨f, hf⟩ : ∃ f, f = (fst' (l.take k)).2 := ⟨_, rfl⟩
    obtain ⟨ps, hps⟩ : ∃ ps, ps = (fst' (l.take k)).1 := ⟨_, rfl⟩
    rw [← hf] at R1 HM hfull
    rw [← hps] at O1 HM hlen
    have hlk := look_some hfull (c := c.toNat) (UInt8.toNat_lt _)
    obtain ⟨q, hq⟩ : ∃ q, q = look f c.toNat := ⟨_, rfl⟩
    rw [← hq] at hlk HM
    have hq256 := hlk.1
    have HLK := hideZ hlk.2
    have HLE := hideZ hlen
    have HFU := hideZ hfull
    clear hget hge hf hps hrow hown hfull hlen hlk hq
    go_wp2_with fail
    go_loopw [6] (fun i wr2 => ∃ p : Nat, i = .int .i64 p ∧ p ≤ q ∧ IsB wr2 (w.heap.size + 1) 5 .u8 256 f ∧ Own0I wr2 w.heap.size (w.heap.size + 2) u3 ps ∧ Below w.heap.size w wr2) (fun i _ => q - (intOf i).toNat)
    case atStart => exact ⟨0, rfl, Nat.zero_le _, R1.out, O1.out, GB.out⟩
    case round =>
     obtain ⟨p, rfl, hp, hrow2, hown2, hbel2⟩ := hrel
     have R2 := hideZ hrow2
     have O2 := hideZ hown2
     have GB2 := hideZ hbel2
     have hgs2 := hrow2.lt
     have c1 := hrow2.cell (j := p) (by omega)
     have hbnd := HFU.out.2 p (by omega)
     obtain ⟨y, hy⟩ : ∃ y, y = f p := ⟨_, rfl⟩
     rw [← hy] at c1 hbnd
     have HY := hideZ hy
     clear hrow2 hown2 hbel2 hy
     by_cases hpq : p = q
     ·have hyc : (y == ((c.toNat : Nat) : Int)) = true := beq_iff_eq.2 (by rw [HY.out, hpq]; exact HLK.out.1)
      have hq1 : q < 256 := hq256
      have HR3 : Hid (∀ nq, IsB (wr.drewN nq) (w.heap.size + 1) 5 .u8 256 f) := fun nq => R2.out
      have HO3 : Hid (∀ nq, Own0I (wr.drewN nq) w.heap.size (w.heap.size + 2) u3 ps) := fun nq => O2.out.keep rfl (fun _ _ _ => rfl)
      have HB3 : Hid (∀ nq, Below w.heap.size w (wr.drewN nq)) := fun nq => below_drewN GB2.out nq
      rw [← hpq] at HM
      clear hpq
      go_wp2_with fail
      go_quiet (fail)
      have R4 := HR3.out nq
      have O4 := HO3.out nq
      have B4 := HB3.out nq
      have z4 : w.heap.size + 1 < (wr.drewN nq).heap.size := hgs2
      generalize wr.drewN nq = W at R4 O4 B4 z4 ⊢
      have HR4 := hideZ R4
      have HO4 := hideZ O4
      have HB4 := hideZ B4
      clear R4 O4 B4 HR3 HO3 HB3 c1
      go_wp2_with (at_builtin; refine wpList_append_own0 _ rfl (.tmp 30) (.tmp 32) 97 rfl (w.heap.size + 2) 2 i0 (.int .i64 0) 1 8 Tryz.underlying97 hi0 hz0 hz1 hz2 rfl (by decide) _ ps.length (ps.map (Value.int .i64)) rfl (Own0.alloc HO4.out.own0 _) ⟨W.heap.size, 0, none⟩ 1 1 [.int .i64 (p : Int)] rfl rfl (one_newI _ _ _) (one_cellI _) (by decide) (by unfold maxLen; have := HLE.out; omega) (by have := HLE.out; omega) (by simp; omega) ?_)
      intro v' w5 hown' hb5
      have ba : Below (w.heap.size + 2) W w5 := ((Below.refl (w.heap.size + 2) W).alloc (by omega) _).trans (hb5 _ (Nat.le_refl _))
      have N5 : Hid (Own0I w5 w.heap.size (w.heap.size + 2) v' (ps ++ [(p : Int)])) := ⟨(ba.block _ (by omega)).trans HO4.out.1, .inr (In.OwnI.snoc hown')⟩
      have R5 := hideZ (HR4.out.below ba (by omega))
      have B5 := hideZ (HB4.out.trans (ba.mono (by omega)))
      have HFS := hideZ (front_spec (w.heap.size + 1) p 256 5 f w5 R5.out (by omega))
      have z5 := ba.size
      clear hown' hb5 ba
      go_wp2_with fail
      refine HFS.out.mono ?_
      rintro e w6 ⟨rfl, hr6, ha6⟩
      have R6 := hideZ hr6
      have N6 := hideZ (N5.out.keep (ha6.2.2.2.2 _ (by omega) (by omega)) (fun j hj1 hj2 => ha6.2.2.2.2 j hj2 (by omega)))
      have B6 := hideZ (Aft.below B5.out ha6 (by omega) (by omega))
      clear hr6 ha6
      go_wp2_with fail
      go_roundw
      case rel => exact ⟨k + 1, by go_num, by omega, by rw [HM.out]; exact R6.out, by rw [HM.out]; exact N6.out, B6.out⟩
      case measure => simp [intOf]; omega
     ·have hyc : (y == ((c.toNat : Nat) : Int)) = false := beq_eq_false_iff_ne.2 (by rw [HY.out]; exact HLK.out.2 p (by omega))
      go_wp2_with fail
      go_quiet (fail)
      all_goals (try go_wp2_with fail)
      go_roundw
      case rel => exact ⟨p + 1, by go_num, by omega, R2.out, O2.out.keep rfl (fun _ _ _ => rfl), below_drewN GB2.out _⟩
      case measure => simp [intOf]; omega
   ·have hd0 : decide ((k : Int) < (t.size : Int)) = false := decide_eq_false (by omega)
    obtain rfl : k = t.size := by omega
    have HT : Hid (l.take t.size = l) := by
     unfold Hid
     rw [← HDL.out, List.take_length]
    rw [HT.out, HL.out] at hown
    have HVV := hideZ (hown.done (by omega))
    clear hrow hown hfull hlen
    go_wp2_with fail
    go_ret
    exact ⟨_, rfl, HVV.out, GB.out⟩
end Go.Proofs.YtjdlgpnhkfdehaaGreatDoor.Fr


/- What the specification's ZerosOf answers, in whole. -/
namespace Go.Proofs.YtjdlgpnhkfdehaaGreatDoor.Ze
open Go.RowKit
open Go.Proofs.YtjdlgpnhkfdehaaGreatDoor.In (Ints OwnI IsO one_newI one_cellI app_one)
open Go.Proofs.YtjdlgpnhkfdehaaGreatDoor.In.Tryz (infoI2)
set_option maxRecDepth 100000 in
set_option maxHeartbeats 1000000 in
theorem zerosOf_spec (l : List Int) (a : Option Addr) (cap B : Nat) (w : World) (hi : Ints w B a l) (hB : B ≤ w.heap.size) (hn : l.length ≤ 1048576) :
    Calls Tryz.prog 171 #[.slice a l.length cap] w fun e w' => ∃ v, e = .returned v ∧ OwnI w' w.heap.size v (zerosR l) ∧ Below w.heap.size w w' := by
  obtain ⟨i0, hi0, hz0, hz1, hz2⟩ := info_parts infoI2
  have hb0 : Below w.heap.size w (w.alloc (.cells #[] 2)) := (Below.refl _ _).alloc (Nat.le_refl _) _
  have HU := hideZ (nums_spec l 255 a cap w.heap.size (w.alloc (.cells #[] 2)) ((hi.mono hB).below hb0) hn)
  have HW := hideZ (OwnI.empty w)
  have HB0 := hideZ hb0
  cases hu : numsR l 255 with
  | false =>
    rw [zerosR_no hu]
    rw [hu] at HU
    clear hi hu hb0
    generalize l.length = n at HU hn ⊢
    go_enter Tryz.func171, Tryz.ntmps171
    go_wp2_with fail
    refine HU.out.mono ?_
    rintro e w' ⟨rfl, hw⟩
    subst w'
    go_wp2_with fail
    go_ret
    exact ⟨_, rfl, HW.out, HB0.out⟩
  | true =>
    rw [zerosR_yes hu]
    have HUP := hideZ (upTo_yes (numsR_yes hu).2)
    have hlong := (numsR_yes hu).1
    rw [hu] at HU
    have HS := hideZ (hi.mono hB)
    clear hi hu hb0
    obtain ⟨n, hln⟩ : ∃ n, n = l.length := ⟨_, rfl⟩
    have HLN := hideZ hln
    rw [← hln] at HU hlong ⊢
    clear hln hn
    go_enter Tryz.func171, Tryz.ntmps171
    go_wp2_with fail
    refine HU.out.mono ?_
    rintro e w' ⟨rfl, hw⟩
    subst w'
    go_wp2_with fail
    go_loopw [5, 3, 4] (fun i u m wr => ∃ k z : Nat, i = .int .i64 k ∧ m = .int .i64 z ∧ k ≤ n ∧ z = (zst (l.take k)).2 ∧ OwnI wr w.heap.size u (zst (l.take k)).1 ∧ Below w.heap.size w wr) (fun i _ _ _ => n - (intOf i).toNat)
    case atStart => exact ⟨0, 0, rfl, rfl, Nat.zero_le _, rfl, HW.out, HB0.out⟩
    case round =>
      obtain ⟨k, z, rfl, rfl, hk, hz, hown, hbel⟩ := hrel
      have hzl := zst_len (l.take k)
      rw [List.length_take] at hzl
      have hzk : (zst (l.take k)).1.length + z ≤ k := by omega
      have GB := hideZ hbel
      have HZ := hideZ hz
      have hsz := hbel.size
      have hrl := zrun_len z
      obtain ⟨a', cap', rfl, _, _⟩ := hown.ints
      obtain ⟨lk, hlk⟩ : ∃ lk, lk = (zst (l.take k)).1 := ⟨_, rfl⟩
      rw [← hlk] at hown hzk ⊢
      have G1 := hideZ hown
      have HLK := hideZ hlk
      clear hz hown hbel hlk hzl
      have HRS := hideZ (fun W => run_spec z W (by omega))
      by_cases hlt : k < n
      · have hkl : k < l.length := by rw [← HLN.out]; exact hlt
        obtain ⟨b, off, rfl, hb, hc⟩ := (HS.out.below GB.out).some (by omega)
        have ci := hc k hkl
        have hx255 := HUP.out _ (List.getElem_mem hkl)
        obtain ⟨x, hx⟩ : ∃ x, x = l[k] := ⟨_, rfl⟩
        have HX := hideZ hx
        rw [← hx] at ci hx255
        clear hc hx
        by_cases h0 : x = 0
        · have HZ1 : Hid (zst (l.take (k + 1)) = (lk, z + 1)) := by
            unfold Hid
            rw [zst_zero hkl (by rw [← HX.out]; exact h0), HZ.out, HLK.out]
          have hbx : (x == 0) = true := beq_iff_eq.2 h0
          clear h0
          go_wp2_with fail
          go_roundw
          case rel => exact ⟨k + 1, z + 1, by go_num, by go_num, by omega, by rw [HZ1.out], by rw [HZ1.out]; exact G1.out, GB.out⟩
          case measure => simp [intOf]; omega
        · have HZ1 : Hid (zst (l.take (k + 1)) = (lk ++ zrun z ++ [x + 1], 0)) := by
            unfold Hid
            rw [zst_other hkl (by rw [← HX.out]; exact h0), HZ.out, HX.out, HLK.out]
          have hbx : (x == 0) = false := beq_eq_false_iff_ne.2 h0
          clear h0
          go_wp2_with fail
          refine (HRS.out wr).mono ?_
          rintro e w4 ⟨v4, rfl, hown4, hne4, hbel4⟩
          have G4 := hideZ (G1.out.below hbel4)
          have B4 := hideZ (GB.out.trans (hbel4.mono hsz))
          have z4 := hbel4.size
          obtain ⟨g4, cap4, rfl, hg4, hg4', ho4⟩ := own_some hown4 hne4
          have O4 := hideZ ho4
          clear hown4 hbel4 hne4 ho4
          obtain ⟨rl, hrl2⟩ : ∃ rl, rl = zrun z := ⟨_, rfl⟩
          rw [← hrl2] at O4 hrl HZ1 ⊢
          clear hrl2 HRS
          go_wp2_with (at_builtin; refine wpList_append_own _ rfl (.tmp 24) (.tmp 26) 97 rfl w.heap.size 2 i0 (.int .i64 0) 1 8 Tryz.underlying97 hi0 hz0 hz1 hz2 rfl (by decide) _ _ _ rfl G4.out ⟨g4, 0, none⟩ _ cap4 (rl.map (Value.int .i64)) rfl (by simp) (own_news O4.out) (own_cells rl) (by unfold maxLen; omega) (by omega) (by omega) ?_)
          intro v' w5 hown' hgrow _
          have hown5 := OwnI.joined hown'
          have b5 := app_row B4.out (by omega) (Nat.le_refl _) G4.out hgrow
          have HL4 : Hid ((lk ++ rl).length ≤ 400) := by
            unfold Hid
            rw [List.length_append]
            omega
          obtain ⟨l4, hl4⟩ : ∃ l4, l4 = lk ++ rl := ⟨_, rfl⟩
          rw [← hl4] at hown5 HZ1 HL4
          have N5 := hideZ hown5
          have B5 := hideZ b5
          have z5 := b5.size
          obtain ⟨a5, cap5, rfl, _, _⟩ := hown5.ints
          have c5 : w5.cell? ⟨b, off + k, none⟩ = some (.int .i64 x) := by
            have h1 := ((HS.out.below b5).some (by omega : 0 < l.length))
            obtain ⟨b', off', e1, _, hc'⟩ := h1
            cases e1
            rw [hc' k hkl, HX.out]
          clear hown' hgrow hown5 b5 hl4 ci
          go_wp2_with (at_builtin; refine wpList_append_own _ rfl (.tmp 28) (.tmp 34) 97 rfl w.heap.size 2 i0 (.int .i64 0) 1 8 Tryz.underlying97 hi0 hz0 hz1 hz2 rfl (by decide) _ _ _ rfl (OwnI.alloc N5.out _) ⟨w5.heap.size, 0, none⟩ 1 1 [.int .i64 (x + 1)] rfl rfl (one_newI _ _ _) (one_cellI _) (by unfold maxLen; have := HL4.out; omega) (by have := HL4.out; omega) (by simp; omega) ?_)
          intro v' w6 hown' hgrow _
          have N6 := hideZ (OwnI.snoc hown')
          have b6 := hideZ (app_one B5.out (by omega) (Nat.le_refl _) N5.out hgrow)
          clear hown' hgrow
          go_wp2_with fail
          go_roundw
          case rel => exact ⟨k + 1, 0, by go_num, rfl, by omega, by rw [HZ1.out], by rw [HZ1.out]; exact N6.out, b6.out⟩
          case measure => simp [intOf]; omega
      · have hkn : k = l.length := by have := HLN.out; omega
        have HT : Hid (l.take k = l) := by
          unfold Hid
          rw [hkn, List.take_length]
        have HR : Hid ((zst l).1 ++ zrun (zst l).2 = lk ++ zrun z) := by
          unfold Hid
          rw [HLK.out, HZ.out, HT.out]
        clear hkn
        go_wp2_with fail
        refine (HRS.out wr).mono ?_
        rintro e w4 ⟨v4, rfl, hown4, hne4, hbel4⟩
        have G4 := hideZ (G1.out.below hbel4)
        have B4 := hideZ (GB.out.trans (hbel4.mono hsz))
        have z4 := hbel4.size
        obtain ⟨g4, cap4, rfl, hg4, hg4', ho4⟩ := own_some hown4 hne4
        have O4 := hideZ ho4
        clear hown4 hbel4 hne4 ho4
        obtain ⟨rl, hrl2⟩ : ∃ rl, rl = zrun z := ⟨_, rfl⟩
        rw [← hrl2] at O4 hrl HR ⊢
        clear hrl2 HRS
        go_wp2_with (at_builtin; refine wpList_append_own _ rfl (.tmp 36) (.tmp 38) 97 rfl w.heap.size 2 i0 (.int .i64 0) 1 8 Tryz.underlying97 hi0 hz0 hz1 hz2 rfl (by decide) _ _ _ rfl G4.out ⟨g4, 0, none⟩ _ cap4 (rl.map (Value.int .i64)) rfl (by simp) (own_news O4.out) (own_cells rl) (by unfold maxLen; omega) (by omega) (by omega) ?_)
        intro v' w5 hown' hgrow _
        have N5 := hideZ (OwnI.joined hown')
        have B5 := hideZ (app_row B4.out (by omega) (Nat.le_refl _) G4.out hgrow)
        clear hown' hgrow
        go_wp2_with fail
        go_ret
        exact ⟨_, rfl, by rw [HR.out]; exact N5.out, B5.out⟩
end Go.Proofs.YtjdlgpnhkfdehaaGreatDoor.Ze


/- The walks of the specification's BlockPack. -/
namespace Go.Proofs.YtjdlgpnhkfdehaaGreatDoor.Pk
open Go.RowKit
open Go.Proofs.YtjdlgpnhkfdehaaGreatDoor.In (Ints IsI OwnI made_ints)
open Go.Proofs.YtjdlgpnhkfdehaaGreatDoor.Hf (up up_length up_at up_set incs incs_next incs_length)
open Go.Proofs.YtjdlgpnhkfdehaaGreatDoor.Bi (above putR packR putL)
open Go.Proofs.YtjdlgpnhkfdehaaGreatDoor.So (bwtT bwtA l05Bwt_spec)
open Go.Proofs.YtjdlgpnhkfdehaaGreatDoor.Fr (frontR frontOf_spec frontR_len)
open Go.Proofs.YtjdlgpnhkfdehaaGreatDoor.Ze (zerosR zerosOf_spec)
open Go.Proofs.YtjdlgpnhkfdehaaGreatDoor.Nu (putS)
open Go.Proofs.YtjdlgpnhkfdehaaGreatDoor.Se (sealV seal_spec)
theorem bytes_ext {a b : ByteArray} (h : a.data.toList = b.data.toList) : a = b := ByteArray.ext (by rw [← Array.toArray_toList (xs := a.data), h, Array.toArray_toList])
def tabB (d : List Nat) : Nat → ByteArray
 | 0 => ⟨#[]⟩
 | k + 1 => if 0 < d.getD k 0 then tabB d k ++ putS (k : Int) ++ putS ((d.getD k 0 : Nat) : Int) else tabB d k
theorem numsL_append (l m : List Int) : numsL (l ++ m) = numsL l ++ numsL m := by
 unfold numsL
 rw [List.flatMap_append]
theorem tabB_list (d : List Nat) : ∀ k, (tabB d k).data.toList = numsL (rowT d k)
 | 0 => rfl
 | k + 1 => by
  have ih := tabB_list d k
  rw [tabB, rowT]
  split
  ·rw [numsL_append, ← ih]
   unfold numsL
   simp [ByteArray.data_append]
  ·exact ih
theorem tabB_size (d : List Nat) (k : Nat) : (tabB d k).size ≤ 20 * k := by
 have h1 : (tabB d k).size = (tabB d k).data.toList.length := by simp
 rw [h1, tabB_list]
 have h2 := numsL_le (rowT d k)
 have h3 := rowT_length d k
 omega
theorem short_eq (b : ByteArray) : ⟨#[1]⟩ ++ (putS (b.size : Int) ++ putS ((bwtA b : Nat) : Int) ++ putS ((symS b).length : Int) ++ putS ((above (up (lenS b)) : Nat) : Int)) ++ tabB (lenS b) 257 ++ bitsS b = shortV b := by
 refine bytes_ext ?_
 show _ = (shortL b).toArray.toList
 unfold shortL headS
 rw [← tabB_list]
 unfold numsL
 simp [ByteArray.data_append]
theorem plain_eq (b : ByteArray) : ⟨#[0]⟩ ++ b = plainV b := by
 refine bytes_ext ?_
 show _ = (0 :: b.data.toList).toArray.toList
 simp [ByteArray.data_append]
set_option maxRecDepth 100000 in
set_option maxHeartbeats 2000000 in
theorem long_spec (b : ByteArray) (w : World) (hb : b.size ≤ 48) :
  Calls Tryz.prog 123 #[.string b] w fun e w' => e = .returned (.string (shortV b)) ∧ Below w.heap.size w w' := by
 obtain ⟨i0, hi, hz0, hz1, hz2⟩ := info_parts In.Tryz.infoI2
 obtain ⟨hf1, hf2, _, _⟩ := lenS_facts b
 have HSM := hideP (symS_mem b)
 have hsl := symS_len b
 have hba := bwtA_le b hb
 have hab := Bi.above_le (up (lenS b))
 rw [up_length, hf1] at hab
 have C1 : Hid (∀ W, Calls Tryz.prog 170 #[.string b] W fun e w' => e = .returned (.tuple #[.string (bwtT b), .int .i64 (bwtA b : Nat)]) ∧ Below W.heap.size W w') := fun W => l05Bwt_spec b W hb
 have C2 : Hid (∀ W, Calls Tryz.prog 172 #[.string (bwtT b)] W fun e w' => ∃ v, e = .returned v ∧ OwnI w' W.heap.size v (frontR (bwtT b).data.toList) ∧ Below W.heap.size W w') := fun W => frontOf_spec (bwtT b) W (by
  have : (bwtT b).size ≤ 48 := by
   unfold bwtT
   rw [if_pos hb, Sh.strF_size]
   exact hb
  omega)
 have C3 : Hid (∀ W base v, OwnI W base v (frontR (bwtT b).data.toList) → Calls Tryz.prog 171 #[v] W fun e w' => ∃ v, e = .returned v ∧ OwnI w' W.heap.size v (symS b) ∧ Below W.heap.size W w') := fun W base v h => by
  obtain ⟨x, c, rfl, _, hi⟩ := h.ints
  exact zerosOf_spec _ x c W.heap.size W hi (Nat.le_refl _) (by have := frontR_len (bwtT b).data.toList; omega)
 obtain ⟨n, hn⟩ : ∃ n, n = (symS b).length := ⟨_, rfl⟩
 have HN := hideP hn
 have HCL := hideP (counts_le (symS b) HSM.out)
 have HNL : Hid ((Hf.nats (symS b)).length = n) := by unfold Hid Hf.nats; rw [List.length_map, hn]
 have C5 : Hid (∀ W g, IsI W g 2 (up (countsN (symS b))) → Calls Tryz.prog 173 #[.slice (some ⟨g, 0, none⟩) 257 257] W fun e w' => ∃ a c', e = .returned (.slice a 257 c') ∧ Ints w' w'.heap.size a (up (lenS b)) ∧ Below W.heap.size W w') := fun W g h => by
  refine (Hf.ofS_any (some ⟨g, 0, none⟩) 257 257 (countsN (symS b)) W (h.ints h.lt) (countsN_length _) (by decide) (by decide) (fun x hx => ?_)).mono ?_
  ·obtain ⟨j, hj, rfl⟩ := List.getElem_of_mem hx
   have h1 := HCL.out (Hf.nats (symS b)).length j
   rw [List.take_length] at h1
   have e : (countsN (symS b)).getD j 0 = (countsN (symS b))[j] := by rw [List.getD_eq_getElem?_getD, List.getElem?_eq_getElem hj]; rfl
   have h3 : (countsN (symS b)).getD j 0 ≤ (symS b).length := h1
   omega
  ·rintro e w' ⟨v, rfl, ho, hb⟩
   obtain ⟨a, c', rfl, _, hi⟩ := ho.ints
   refine ⟨a, c', ?_, hi, hb⟩
   rw [up_length]
   show Ending.returned (.slice a (lenS b).length c') = _
   rw [hf1]
 have C7 : Hid (∀ W x c y d, 0 < above (up (lenS b)) → Ints W W.heap.size x (up (lenS b)) → Ints W W.heap.size y (symS b) → Calls Tryz.prog 174 #[.slice x 257 c, .slice y n d] W fun e w' => e = .returned (.string (putR (up (lenS b)) (symS b))) ∧ Below W.heap.size W w') := fun W x c y d h0 h1 h2 => by
  have := Bi.l04Put_any (up (lenS b)) (symS b) x y c d W h1 h2 (by omega) (lenS_whole b h0) (symS_ok b)
  rw [up_length, hf1, ← hn, ← bits_some b h0] at this
  exact this
 have C8 : Hid (∀ W, Calls Tryz.prog 175 #[.string (putR (up (lenS b)) (symS b))] W fun e w' => e = .returned (.string (bitsS b)) ∧ Below W.heap.size W w') := fun W => Bi.pack_spec _ W (by have := bits_size b; omega)
 have HBN := hideP (bits_none b)
 have CP : Hid (∀ (x : Int) W, 0 ≤ x → x ≤ 1000000 → Calls Tryz.prog 137 #[.int .i64 x] W fun e w' => e = .returned (.string (putS x)) ∧ Below W.heap.size W w') := fun x W h1 h2 => Nu.put_spec x W (by omega) (by omega)
 have HPS := hideP putS_size
 have HTS := hideP (tabB_size (lenS b))
 have HBS := hideP (bitsS_size b)
 have HEQ := hideP (short_eq b)
 rw [← hn] at hsl HEQ
 have HD12 := hideP hf2
 have HDL := hideP hf1
 have HZ : Hid (up (incs (Hf.zeros 257) ((Hf.nats (symS b)).take 0)) = List.replicate 257 0) := by
  unfold Hid
  rw [List.take_zero]
  show up (Hf.zeros 257) = _
  unfold up Hf.zeros
  rw [List.map_replicate]
  rfl
 have HCN : Hid (incs (Hf.zeros 257) ((Hf.nats (symS b)).take n) = countsN (symS b)) := by
  unfold Hid
  rw [List.take_of_length_le (by rw [HNL.out]; exact Nat.le_refl _)]
  rfl
 have HNXT := hideP (fun j (h : j < n) => incs_next (Hf.zeros 257) (Hf.nats (symS b)) j (by rw [HNL.out]; exact h))
 have HNAT := hideP (fun j (h : j < (symS b).length) => nats_at (symS b) j h)
 have HABV := hideP (fun k (h : k < (up (lenS b)).length) => Bi.above_more (l := up (lenS b)) h)
 have HAB0 : Hid (above ((up (lenS b)).take 0) = 0) := rfl
 have HABA : Hid (above ((up (lenS b)).take 257) = above (up (lenS b))) := by
  unfold Hid
  rw [List.take_of_length_le (by rw [up_length, hf1]; exact Nat.le_refl _)]
 clear hn hf1 hf2
 generalize shortV b = R at HEQ ⊢
 generalize bitsS b = T3 at C8 HEQ HBS
 generalize putR (up (lenS b)) (symS b) = T0 at C7 C8 HBN
 generalize above (up (lenS b)) = kV at C7 HEQ HBN HABA hab
 generalize bwtA b = kA at C1 HEQ hba
 generalize bwtT b = kT at C1 C2 C3
 go_enter Tryz.func123, Tryz.ntmps123
 go_wp2_with fail
 refine (C1.out _).mono ?_
 rintro e w1 ⟨rfl, hb1⟩
 have B1 := hideP hb1
 clear hb1
 go_wp2_with fail
 refine (C2.out _).mono ?_
 rintro e w3 ⟨v3, rfl, ho3, hb3⟩
 have B3 := hideP (low_keep B1.out hb3)
 have O3 := hideP ho3
 clear ho3 hb3 B1
 go_wp2_with fail
 refine (C3.out _ _ _ O3.out).mono ?_
 rintro e w4 ⟨v4, rfl, ho4, hb4⟩
 have B4 := hideP (low_keep B3.out hb4)
 obtain ⟨ay, cy, hv4, _, hi4⟩ := ho4.ints
 rw [← HN.out] at hv4
 subst hv4
 have Y4 := hideP hi4
 have hz4 := B4.out.size
 clear ho4 hb4 B3 O3 hi4 C1 C2 C3
 go_wp2_with (at_make; refine wpList_make_full _ rfl (.const (.int .i64 257)) (.const (.int .i64 257)) 97 rfl w4.heap.size 2 i0 (.int .i64 0) 1 Tryz.underlying97 hi hz0 hz1 .i64 .i64 _ _ 257 rfl rfl (by omega) (by omega) (by rw [hz2]; omega) (by unfold maxLen; omega) (Nat.le_refl _) ?_; intro w5 hown hgrow; have HI1 := hideP (made_ints hown); have HB1 := hideP ((Below.refl w4.heap.size w4).grown hgrow (Nat.le_refl _) (by simp)); clear hown hgrow)
 go_loopw [7] (fun iv wr => ∃ j : Nat, iv = .int .i64 j ∧ j ≤ n ∧ IsI wr w4.heap.size 2 (up (incs (Hf.zeros 257) ((Hf.nats (symS b)).take j))) ∧ Below w4.heap.size w4 wr) (fun iv _ => n - (intOf iv).toNat)
 case atStart => exact ⟨0, rfl, Nat.zero_le _, by rw [HZ.out]; exact HI1.out, HB1.out⟩
 case round =>
  obtain ⟨j, rfl, hj, hij, hbw⟩ := hrel
  have IJ := hideP hij
  have BW := hideP hbw
  clear hij hbw
  by_cases hlt : j < n
  ·have hjl : j < (symS b).length := by rw [← HN.out]; exact hlt
   obtain ⟨bb, off, rfl, hbb, hcl⟩ := (Y4.out.below BW.out).some (by omega)
   have ci := hcl j hjl
   have hx := HSM.out (symS b)[j] (List.getElem_mem hjl)
   have HNX := hideP (HNXT.out j hlt)
   rw [HNAT.out j hjl] at HNX
   generalize (symS b)[j] = x at ci hx HNX
   obtain ⟨y, rfl⟩ : ∃ y : Nat, x = y := ⟨x.toNat, by omega⟩
   rw [Int.toNat_natCast] at HNX
   have hlen : y < (incs (Hf.zeros 257) ((Hf.nats (symS b)).take j)).length := by rw [incs_length, zeros_length]; omega
   have cl0 : wr.cell? ⟨w4.heap.size, y, none⟩ = some (.int .i64 (((incs (Hf.zeros 257) ((Hf.nats (symS b)).take j)).getD y 0 : Nat) : Int)) := by
    rw [IJ.out.cell (j := y) (by rw [up_length]; exact hlen), up_at _ _ hlen]
   have zl0 := IJ.out.frozen y
   have hdb := HCL.out j y
   obtain ⟨dv, hdv⟩ : ∃ dv, dv = (incs (Hf.zeros 257) ((Hf.nats (symS b)).take j)).getD y 0 := ⟨_, rfl⟩
   have HDV := hideP hdv
   rw [← hdv] at cl0 hdb
   have hdv2 : dv ≤ 400 := by have := HN.out; omega
   have hy : (y : Int) < 257 := by omega
   have hjn : (j : Int) < n := by omega
   clear hdv hcl hjl hlen hdb
   go_wp2_with fail
   go_region
   all_goals (
    go_wp2_with fail
    go_roundw
    case rel =>
     refine ⟨j + 1, by go_num, by omega, ?_, (BW.out.setCell (by simp) _).drew⟩
     have := IJ.out.set y ((dv : Int) + 1)
     rw [HNX.out, ← HDV.out, ← up_set]
     exact this
    case measure => simp [intOf]; omega)
  ·obtain rfl : j = n := by omega
   have IE : Hid (IsI wr w4.heap.size 2 (up (countsN (symS b)))) := by
    have := IJ.out
    rw [HCN.out] at this
    exact this
   have YE := hideP (ints_keep Y4.out BW.out)
   have BE := hideP (low_keep B4.out BW.out)
   generalize w4.heap.size = gc at IE ⊢
   clear IJ BW Y4 B4 HI1 HB1 HNXT HNAT HCL HZ HCN
   go_wp2_with fail
   refine (C5.out _ _ IE.out).mono ?_
   rintro e w6 ⟨az, cz, rfl, hi6, hb6⟩
   have B6 := hideP (low_keep BE.out hb6)
   have Y6 := hideP (ints_keep YE.out hb6)
   have Z6 := hideP hi6
   clear hi6 hb6 IE YE BE
   go_wp2_with fail
   go_loopw [11, 9, 10] (fun iv tv mv wr => ∃ k : Nat, iv = .int .i64 k ∧ k ≤ 257 ∧ tv = .string (tabB (lenS b) k) ∧ mv = .int .i64 (above ((up (lenS b)).take k) : Nat) ∧ Below w6.heap.size w6 wr) (fun iv _ _ _ => 257 - (intOf iv).toNat)
   case atStart => exact ⟨0, rfl, Nat.zero_le _, rfl, rfl, Below.refl _ _⟩
   case round =>
    obtain ⟨k, rfl, hk, rfl, rfl, hbw⟩ := hrel
    have BW := hideP hbw
    clear hbw
    by_cases hlt2 : k < 257
    ·have hkd : k < (lenS b).length := by rw [HDL.out]; exact hlt2
     obtain ⟨bb, off, rfl, hbb, hcl⟩ := (Z6.out.below BW.out).some (by rw [up_length]; omega)
     have ci := Hf.up_get hcl k hkd
     have hg : (lenS b).getD k 0 = (lenS b)[k] := by rw [List.getD_eq_getElem?_getD, List.getElem?_eq_getElem hkd]; rfl
     have hx := HD12.out k
     have HNX : Hid (tabB (lenS b) (k + 1) = if 0 < (lenS b).getD k 0 then tabB (lenS b) k ++ putS (k : Int) ++ putS (((lenS b).getD k 0 : Nat) : Int) else tabB (lenS b) k) := rfl
     have HAX := hideP (HABV.out k (by rw [up_length]; exact hkd))
     rw [up_at _ _ hkd] at HAX
     have hts := HTS.out k
     have hac : above ((up (lenS b)).take k) ≤ 257 := by
      have := Bi.above_le ((up (lenS b)).take k)
      rw [List.length_take] at this
      omega
     have HCI := hideP (fun (W : World) (h : Below wr.heap.size wr W) => (h.cell (p := ⟨bb, off + k, none⟩) (show bb < wr.heap.size by have := BW.out.size; omega)).trans ci)
     rw [← hg] at ci HCI
     generalize (lenS b).getD k 0 = x at ci hx HNX HAX HCI hg
     generalize tabB (lenS b) k = T at HNX hts ⊢
     generalize above ((up (lenS b)).take k) = m at HAX hac ⊢
     clear hg hcl hkd
     by_cases h0 : 0 < x
     ·have h0' : (0 : Int) < x := by omega
      rw [if_pos h0] at HNX
      rw [if_pos h0'] at HAX
      have p1 := HPS.out (k : Int)
      have p2 := HPS.out (x : Int)
      have HP1 := hideP (fun W => CP.out (k : Int) W (by omega) (by omega))
      have HP2 := hideP (fun W => CP.out (x : Int) W (by omega) (by omega))
      generalize putS (k : Int) = P1 at HP1 HNX p1
      generalize putS (x : Int) = P2 at HP2 HNX p2
      have n1 : ¬ 9223372036854775807 < T.size + P1.size := by omega
      have n2 : ¬ 9223372036854775807 < T.size + P1.size + P2.size := by omega
      have hkk : (k : Int) < 257 := by omega
      have gc := fun d os => cell_regrown (w := wr) ci d os
      have mixed := So.mixed
      go_wp2_with fail
      clear ci
      refine wp_region_quiet_below (by assumption) (by kernel_rfl) ?_
      repeat (quiet_step (first | (go_at_call_of 137 (Value.int IntKind.i64 (k : Int)); exact Calls.regrown_of (HP1.out _)) | (go_at_call_of 137 (Value.int IntKind.i64 (x : Int)); exact Calls.regrown_of (HP2.out _))))
      refine wpQuiet_nil ?_
      intro _ hw'
      obtain ⟨⟨dq, osq⟩, hw''⟩ := hw'
      subst hw''
      have KQ := hideP (below_regrown wr dq osq)
      generalize Go.Sort.grow (redrawn wr dq) osq = w8 at KQ ⊢
      clear gc
      go_wp2_with fail
      go_roundw
      case rel => exact ⟨k + 1, by go_num, by omega, by rw [HNX.out], by rw [HAX.out]; go_num, low_keep BW.out KQ.out⟩
      case measure => simp [intOf]; omega
     ·have h0' : x = 0 := by omega
      subst h0'
      rw [if_neg h0] at HNX
      rw [if_neg (by decide)] at HAX
      go_wp2_with fail
      go_roundw
      case rel => exact ⟨k + 1, by go_num, by omega, by rw [HNX.out], by rw [HAX.out]; rfl, BW.out⟩
      case measure => simp [intOf]; omega
    ·obtain rfl : k = 257 := by omega
     have Y7 := hideP (ints_keep Y6.out BW.out)
     have Z7 := hideP (ints_keep Z6.out BW.out)
     have B7 := hideP (low_keep B6.out BW.out)
     have hts := HTS.out 257
     rw [HABA.out]
     clear Y6 Z6 B6 BW HABV HAB0 HABA HTS HD12
     generalize tabB (lenS b) 257 = T at HEQ hts ⊢
     have p1 := HPS.out (b.size : Int)
     have p2 := HPS.out (kA : Int)
     have p3 := HPS.out (j : Int)
     have p4 := HPS.out (kV : Int)
     have HP1 := hideP (fun W => CP.out (b.size : Int) W (by omega) (by omega))
     have HP2 := hideP (fun W => CP.out (kA : Int) W (by omega) (by omega))
     have HP3 := hideP (fun W => CP.out (j : Int) W (by omega) (by omega))
     have HP4 := hideP (fun W => CP.out (kV : Int) W (by omega) (by omega))
     generalize putS (b.size : Int) = P1 at HP1 HEQ p1
     generalize putS (kA : Int) = P2 at HP2 HEQ p2
     generalize putS (j : Int) = P3 at HP3 HEQ p3
     generalize putS (kV : Int) = P4 at HP4 HEQ p4
     have q1 : (P1 ++ P2).size ≤ 20 := by rw [ByteArray.size_append]; omega
     have q2 : (P1 ++ P2 ++ P3).size ≤ 30 := by rw [ByteArray.size_append]; omega
     have q3 : (P1 ++ P2 ++ P3 ++ P4).size ≤ 40 := by rw [ByteArray.size_append]; omega
     have q4 : ((⟨#[1]⟩ : ByteArray) ++ (P1 ++ P2 ++ P3 ++ P4)).size ≤ 41 := by rw [ByteArray.size_append]; have : (⟨#[1]⟩ : ByteArray).size = 1 := rfl; omega
     have q5 : ((⟨#[1]⟩ : ByteArray) ++ (P1 ++ P2 ++ P3 ++ P4) ++ T).size ≤ 5181 := by rw [ByteArray.size_append]; omega
     have hbs := HBS.out
     have r1 : P1.size + P2.size ≤ 9223372036854775807 := by omega
     have r2 : (P1 ++ P2).size + P3.size ≤ 9223372036854775807 := by omega
     have r3 : (P1 ++ P2 ++ P3).size + P4.size ≤ 9223372036854775807 := by omega
     have r4 : (⟨#[1]⟩ : ByteArray).size + (P1 ++ P2 ++ P3 ++ P4).size ≤ 9223372036854775807 := by have : (⟨#[1]⟩ : ByteArray).size = 1 := rfl; omega
     have r5 : ((⟨#[1]⟩ : ByteArray) ++ (P1 ++ P2 ++ P3 ++ P4)).size + T.size ≤ 9223372036854775807 := by omega
     have r6 : ((⟨#[1]⟩ : ByteArray) ++ (P1 ++ P2 ++ P3 ++ P4) ++ T).size + T3.size ≤ 9223372036854775807 := by omega
     go_wp2_with fail
     refine (HP1.out _).mono ?_
     rintro e w91 ⟨rfl, hb91⟩
     have B91 := hideP (low_keep B7.out hb91)
     have Y8 := hideP (ints_keep Y7.out hb91)
     have Z8 := hideP (ints_keep Z7.out hb91)
     clear hb91 Y7 Z7 B7
     go_wp2_with fail
     refine (HP2.out _).mono ?_
     rintro e w92 ⟨rfl, hb92⟩
     have B92 := hideP (low_keep B91.out hb92)
     have Y9 := hideP (ints_keep Y8.out hb92)
     have Z9 := hideP (ints_keep Z8.out hb92)
     clear hb92 Y8 Z8 B91
     go_wp2_with fail
     refine (HP3.out _).mono ?_
     rintro e w93 ⟨rfl, hb93⟩
     have B93 := hideP (low_keep B92.out hb93)
     have Y10 := hideP (ints_keep Y9.out hb93)
     have Z10 := hideP (ints_keep Z9.out hb93)
     clear hb93 Y9 Z9 B92
     go_wp2_with fail
     refine (HP4.out _).mono ?_
     rintro e w94 ⟨rfl, hb94⟩
     have B94 := hideP (low_keep B93.out hb94)
     have Y11 := hideP (ints_keep Y10.out hb94)
     have Z11 := hideP (ints_keep Z10.out hb94)
     clear hb94 Y10 Z10 B93
     by_cases hV : 0 < kV
     ·have hV' : (0 : Int) < kV := by omega
      go_wp2_with fail
      refine (C7.out _ _ _ _ _ hV Z11.out Y11.out).mono ?_
      rintro e w95 ⟨rfl, hb95⟩
      have B95 := hideP (low_keep B94.out hb95)
      clear hb95
      go_wp2_with fail
      refine (C8.out _).mono ?_
      rintro e w96 ⟨rfl, hb96⟩
      have B96 := hideP (low_keep B95.out hb96)
      clear hb96
      go_wp2_with fail
      go_ret
      exact ⟨by rw [← HEQ.out]; rfl, B96.out⟩
     ·obtain rfl : kV = 0 := by omega
      obtain rfl := HBN.out rfl
      have B95 := hideP B94.out
      go_wp2_with fail
      refine (C8.out _).mono ?_
      rintro e w96 ⟨rfl, hb96⟩
      have B96 := hideP (low_keep B95.out hb96)
      clear hb96
      go_wp2_with fail
      go_ret
      exact ⟨by rw [← HEQ.out]; rfl, B96.out⟩
set_option maxRecDepth 100000 in
set_option maxHeartbeats 1000000 in
theorem pack_l06 (b : ByteArray) (w : World) (hb : b.size ≤ 48) :
  Calls Tryz.prog 69 #[.string b] w fun e w' => e = .returned (.string (packB b)) ∧ Below w.heap.size w w' := by
 have HR : Hid (packB b = sealV (innerV b)) := if_neg (by omega)
 have HL := hideP (fun W => long_spec b W hb)
 have hss : (shortV b).size ≤ 20000 := by
  have := shortL_le b
  show (shortL b).toArray.size ≤ 20000
  rw [List.size_toArray]
  exact this
 have HSE := hideP (fun (t : ByteArray) (W : World) (h : t.size ≤ 20000) => seal_spec t W (by unfold maxLen; omega))
 have HPE := hideP (plain_eq b)
 have hps := plainV_size b
 have HIN : Hid (innerV b = if (shortV b).size < b.size + 1 then shortV b else plainV b) := rfl
 rw [HR.out, HIN.out]
 clear HR HIN
 generalize shortV b = S at HL hss ⊢
 generalize plainV b = P at HPE hps ⊢
 by_cases hlt : S.size < b.size + 1
 ·have hlt' : ¬ (b.size : Int) + 1 ≤ (S.size : Int) := by omega
  have hlt2 : decide ((b.size : Int) + 1 ≤ (S.size : Int)) = false := decide_eq_false hlt'
  rw [if_pos hlt]
  have HSE1 := hideP (fun W => HSE.out S W hss)
  generalize sealV S = R at HSE1 ⊢
  go_enter Tryz.func69, Tryz.ntmps69
  go_wp2_with fail
  refine (HL.out _).mono ?_
  rintro e w1 ⟨rfl, hb1⟩
  have B1 := hideP hb1
  clear hb1
  go_wp2_with fail
  refine (HSE1.out _).mono ?_
  rintro e w2 ⟨rfl, hb2⟩
  have B2 := hideP (low_keep B1.out hb2)
  clear hb2
  go_wp2_with fail
  go_ret
  exact ⟨rfl, B2.out⟩
 ·have hlt' : (b.size : Int) + 1 ≤ (S.size : Int) := by omega
  rw [if_neg hlt]
  have HSE1 := hideP (fun W => HSE.out P W (by omega))
  rw [← HPE.out] at HSE1 ⊢
  have hz0 : (⟨#[0]⟩ : ByteArray).size + b.size ≤ 9223372036854775807 := by have : (⟨#[0]⟩ : ByteArray).size = 1 := rfl; omega
  generalize sealV ((⟨#[0]⟩ : ByteArray) ++ b) = R at HSE1 ⊢
  clear HPE
  go_enter Tryz.func69, Tryz.ntmps69
  go_wp2_with fail
  refine (HL.out _).mono ?_
  rintro e w1 ⟨rfl, hb1⟩
  have B1 := hideP hb1
  clear hb1
  go_wp2_with fail
  refine (HSE1.out _).mono ?_
  rintro e w2 ⟨rfl, hb2⟩
  have B2 := hideP (low_keep B1.out hb2)
  clear hb2
  go_wp2_with fail
  go_ret
  exact ⟨rfl, B2.out⟩
set_option maxHeartbeats 1000000 in
theorem pack_spec (b : ByteArray) (w : World) (hb : b.size ≤ 1048576) :
  Calls Tryz.prog 16 #[.string b] w fun e w' => e = .returned (.string (packB b)) ∧ Below w.heap.size w w' := by
 have HB := hideP (So.block_spec b w hb)
 by_cases h48 : b.size ≤ 48
 ·have HL := hideP (pack_l06 b w h48)
  rw [decide_eq_true h48] at HB
  generalize packB b = R at HL ⊢
  go_enter Tryz.func16, Tryz.ntmps16
  go_wp2_with fail
  refine HB.out.mono ?_
  rintro e w1 ⟨rfl, hw1⟩
  subst w1
  go_wp2_with fail
  refine HL.out.mono ?_
  rintro e w2 ⟨rfl, hb2⟩
  have B2 := hideP hb2
  clear hb2
  go_wp2_with fail
  go_ret
  exact ⟨rfl, B2.out⟩
 ·have HR : Hid (packB b = ⟨#[]⟩) := if_pos (by omega)
  rw [decide_eq_false h48] at HB
  rw [HR.out]
  go_enter Tryz.func16, Tryz.ntmps16
  go_wp2_with fail
  refine HB.out.mono ?_
  rintro e w1 ⟨rfl, hw1⟩
  subst w1
  go_wp2_with fail
  go_ret
  exact ⟨rfl, Below.refl _ _⟩
end Go.Proofs.YtjdlgpnhkfdehaaGreatDoor.Pk


/- What the specification's BlockUnpack answers. -/
namespace Go.Proofs.YtjdlgpnhkfdehaaGreatDoor.Up
open Go.Proofs.YtjdlgpnhkfdehaaGreatDoor.Pk
open Go.RowKit
open Go.Proofs.YtjdlgpnhkfdehaaGreatDoor.Se (sealV unsealV outV unseal_spec)
open Go.Proofs.YtjdlgpnhkfdehaaGreatDoor.Sh (bt)
theorem list_eqP (a b : ByteArray) : (a.toList == b.toList) = decide (a = b) := Se.list_eq_iff a b
theorem byte0 {t : ByteArray} (h : 0 < t.size) : (t[0]'h).toNat = bt t 0 := by
 unfold Sh.bt
 simp [h]
 rfl
theorem three {W : World} {g : Nat} {x y z : Value} {t : TypeId} (h : W.heap[g]? = some (.cells #[x, y, z] t (0, 0))) : W.cell? ⟨g, 0, none⟩ = some x ∧ W.cell? ⟨g, 1, none⟩ = some y ∧ W.cell? ⟨g, 2, none⟩ = some z :=
 ⟨cell_of_row W g 0 _ _ _ h, cell_of_row W g 1 _ _ _ h, cell_of_row W g 2 _ _ _ h⟩
theorem set3_cells {W : World} {g : Nat} {x y z : Value} {T : TypeId} (h : W.heap[g]? = some (.cells #[x, y, z] T (0, 0))) (a b c : Value) :
  (((W.setCell ⟨g, 0, none⟩ a).setCell ⟨g, 1, none⟩ b).setCell ⟨g, 2, none⟩ c).cell? ⟨g, 0, none⟩ = some a ∧ (((W.setCell ⟨g, 0, none⟩ a).setCell ⟨g, 1, none⟩ b).setCell ⟨g, 2, none⟩ c).cell? ⟨g, 1, none⟩ = some b ∧ (((W.setCell ⟨g, 0, none⟩ a).setCell ⟨g, 1, none⟩ b).setCell ⟨g, 2, none⟩ c).cell? ⟨g, 2, none⟩ = some c := three (set_k3 (set_k3 (set_k3 h a).1 b).2.1 c).2.2
theorem set3_alloc {W : World} {g : Nat} {x y z : Value} {T : TypeId} (h : W.heap[g]? = some (.cells #[x, y, z] T (0, 0))) (a b c : Value) (o : Obj) :
  ((((W.setCell ⟨g, 0, none⟩ a).setCell ⟨g, 1, none⟩ b).setCell ⟨g, 2, none⟩ c).alloc o).cell? ⟨g, 0, none⟩ = some a ∧ ((((W.setCell ⟨g, 0, none⟩ a).setCell ⟨g, 1, none⟩ b).setCell ⟨g, 2, none⟩ c).alloc o).cell? ⟨g, 1, none⟩ = some b ∧ ((((W.setCell ⟨g, 0, none⟩ a).setCell ⟨g, 1, none⟩ b).setCell ⟨g, 2, none⟩ c).alloc o).cell? ⟨g, 2, none⟩ = some c :=
 three (blk_low (set_k3 (set_k3 (set_k3 h a).1 b).2.1 c).2.2 ((Below.refl _ _).alloc (Nat.le_refl _) _))
theorem set3_low {B : Nat} {w W : World} (h : Below B w W) (a b c : Value) : Below B w (((W.setCell ⟨B, 0, none⟩ a).setCell ⟨B, 1, none⟩ b).setCell ⟨B, 2, none⟩ c) := ((h.setCell (p := ⟨B, 0, none⟩) (Nat.le_refl _) a).setCell (p := ⟨B, 1, none⟩) (Nat.le_refl _) b).setCell (p := ⟨B, 2, none⟩) (Nat.le_refl _) c
theorem set3_lowA {B : Nat} {w W : World} (hB : w.heap.size = B) (h : Below B w W) (a b c : Value) (o : Obj) : Below B w ((((W.setCell ⟨B, 0, none⟩ a).setCell ⟨B, 1, none⟩ b).setCell ⟨B, 2, none⟩ c).alloc o) := by
 have := set3_low h a b c
 exact this.alloc (by have := this.size; omega) o
set_option maxRecDepth 100000 in
set_option maxHeartbeats 4000000 in
theorem unpack_spec (s : ByteArray) (w : World) (hs : s.size ≤ 1048576) :
    Calls Tryz.prog 17 #[.string s] w fun e w' => e = .returned (ansU s) ∧ Below w.heap.size w w' := by
  obtain ⟨g, hg⟩ : ∃ g, g = w.heap.size := ⟨_, rfl⟩
  have HBE := hideP hg.symm
  have HR0 : Hid ((w.alloc (.cells #[.string ⟨#[]⟩, .int .i64 0, .int .i64 0] 26)).heap[g]? = some (.cells #[.string ⟨#[]⟩, .int .i64 0, .int .i64 0] 26 (0, 0))) := by rw [hg]; exact heap_alloc_new w _
  have HL0 : Hid (Below g w (w.alloc (.cells #[.string ⟨#[]⟩, .int .i64 0, .int .i64 0] 26))) := by rw [hg]; exact (Below.refl _ _).alloc (Nat.le_refl _) _
  rcases unseal_case s with ⟨t, hu, hse, htz, h4⟩ | ⟨c, hc0, hu⟩
  · have HU := hideP hu
    have HSE := hideP hse
    have HAN := hideP (ansU_yes hu)
    clear hu hse
    go_enter Tryz.func17, Tryz.ntmps17
    go_wp2_with fail
    rw [← hg]
    generalize hww : w.alloc (.cells #[.string ⟨#[]⟩, .int .i64 0, .int .i64 0] 26) = w0 at HR0 HL0 ⊢
    clear hww hg
    refine (unseal_spec s _ (by unfold maxLen; omega)).mono ?_
    rintro e w1 ⟨rfl, hb1⟩
    have R1 := hideP (blk_low HR0.out hb1)
    have L1 := hideP (low2 HBE.out HL0.out hb1)
    clear hb1 HR0 HL0
    rw [HU.out]
    unfold outV
    by_cases ht0 : 0 < t.size
    · have ht0i : (0 : Int) < (t.size : Int) := by omega
      have HB0 := hideP (byte0 ht0)
      generalize hx0 : (t[0]'ht0).toNat = x0 at HB0
      have HX0 := hideP hx0
      by_cases hz : x0 = 0
      · have e0 : (((t[0]'ht0).toNat : Int) == 0) = true := by rw [hx0, hz]; rfl
        have e1 : (((t[0]'ht0).toNat : Int) == 1) = false := by rw [hx0, hz]; rfl
        clear hx0
        go_wp2_with fail
        have Rx : Hid ((w1.alloc (.cells #[.string t, .int .i64 0, .int .i64 0] 26)).heap[g]? = some (.cells #[.string ⟨#[]⟩, .int .i64 0, .int .i64 0] 26 (0, 0))) := blk_low R1.out ((Below.refl _ _).alloc (Nat.le_refl _) _)
        have Lx : Hid (Below g w (w1.alloc (.cells #[.string t, .int .i64 0, .int .i64 0] 26))) := low2 HBE.out L1.out ((Below.refl _ _).alloc (Nat.le_refl _) _)
        generalize hww : w1.alloc (.cells #[.string t, .int .i64 0, .int .i64 0] 26) = wx at Rx Lx ⊢
        clear hww
        have Rwx := Rx
        have Lwx := Lx
        clear Rx Lx
        have hrs : (t.extract 1 t.size).size ≤ 1048576 := (by have := ext_size t 1; omega)
        refine (pack_spec (t.extract 1 t.size) _ hrs).mono ?_
        rintro e wp ⟨rfl, hbp⟩
        have Rwp := hideP (blk_low Rwx.out hbp)
        have Lwp := hideP (low2 HBE.out Lwx.out hbp)
        clear hbp
        obtain ⟨kb, hkb⟩ : ∃ x, x = packB (t.extract 1 t.size) := ⟨_, rfl⟩
        obtain ⟨ha1, ha2⟩ := ansT_read HSE.out htz h4 (r := t.extract 1 t.size) (fun b h1 h2 => by
              rcases inner_case h1 h2 with k | k
              · have q1 := HB0.out; have q2 := k.2.2; omega
              · exact k.2.2.2)
        rw [← hkb] at ha1 ha2 ⊢
        clear hkb
        by_cases hk : kb = s
        · have HQ := hideP (ha1 hk)
          subst hk
          have cc := three Rwp.out
          have ff := fun o => frozen_of_row wp g o _ _ Rwp.out
          obtain ⟨cc0, cc1, cc2⟩ := cc
          have s3 := set3_cells Rwp.out (.string (t.extract 1 t.size)) (.int .i64 0) (.int .i64 0)
          go_wp2_with fail
          refine bodyPost_ret (v := outV (t.extract 1 t.size) 0 0) (by simp [results, outV, Tryz.results17, go_sem, s3.1, s3.2.1, s3.2.2]) rfl ⟨?_, ?_⟩
          · rw [HAN.out, HQ.out]
          · rw [HBE.out]
            exact set3_low Lwp.out _ _ _
        · have HQ := hideP (ha2 hk)
          have hkl : (kb.toList == s.toList) = false := by rw [list_eqP]; exact decide_eq_false hk
          have cc := three Rwp.out
          have ff := fun o => frozen_of_row wp g o _ _ Rwp.out
          obtain ⟨cc0, cc1, cc2⟩ := cc
          have s3 := set3_cells Rwp.out (.string ⟨#[]⟩) (.int .i64 0) (.int .i64 3)
          go_wp2_with fail
          refine bodyPost_ret (v := outV ⟨#[]⟩ 0 3) (by simp [results, outV, Tryz.results17, go_sem, s3.1, s3.2.1, s3.2.2]) rfl ⟨?_, ?_⟩
          · rw [HAN.out, HQ.out]
          · rw [HBE.out]
            exact set3_low Lwp.out _ _ _
      · by_cases hy : x0 = 1
        · have e0 : (((t[0]'ht0).toNat : Int) == 0) = false := by rw [hx0, hy]; rfl
          have e1 : (((t[0]'ht0).toNat : Int) == 1) = true := by rw [hx0, hy]; rfl
          clear hx0
          go_wp2_with fail
          have Rx : Hid ((w1.alloc (.cells #[.string t, .int .i64 0, .int .i64 0] 26)).heap[g]? = some (.cells #[.string ⟨#[]⟩, .int .i64 0, .int .i64 0] 26 (0, 0))) := blk_low R1.out ((Below.refl _ _).alloc (Nat.le_refl _) _)
          have Lx : Hid (Below g w (w1.alloc (.cells #[.string t, .int .i64 0, .int .i64 0] 26))) := low2 HBE.out L1.out ((Below.refl _ _).alloc (Nat.le_refl _) _)
          generalize hww : w1.alloc (.cells #[.string t, .int .i64 0, .int .i64 0] 26) = wx at Rx Lx ⊢
          clear hww
          have Rwx := Rx
          have Lwx := Lx
          clear Rx Lx
          refine (openS_any t wx (by omega) (by omega)).mono ?_
          rintro e wo ⟨⟨r, rfl, hrz, hro⟩, hbo⟩
          have Rwo := hideP (blk_low Rwx.out hbo)
          have Lwo := hideP (low2 HBE.out Lwx.out hbo)
          have HRO := hideP hro
          clear hbo hro
          go_wp2_with fail
          have hrs : (r).size ≤ 1048576 := (by omega)
          refine (pack_spec r _ hrs).mono ?_
          rintro e wp ⟨rfl, hbp⟩
          have Rwp := hideP (blk_low Rwo.out hbp)
          have Lwp := hideP (low2 HBE.out Lwo.out hbp)
          clear hbp
          obtain ⟨kb, hkb⟩ : ∃ x, x = packB r := ⟨_, rfl⟩
          obtain ⟨ha1, ha2⟩ := ansT_read HSE.out htz h4 (r := r) (fun b h1 h2 => by
                rcases inner_case h1 h2 with k | k
                · exact HRO.out b k.1
                · have q1 := HB0.out; have q2 := k.2.2.1; omega)
          rw [← hkb] at ha1 ha2 ⊢
          clear hkb
          by_cases hk : kb = s
          · have HQ := hideP (ha1 hk)
            subst hk
            have cc := three Rwp.out
            have ff := fun o => frozen_of_row wp g o _ _ Rwp.out
            obtain ⟨cc0, cc1, cc2⟩ := cc
            have s3 := set3_cells Rwp.out (.string (r)) (.int .i64 0) (.int .i64 0)
            go_wp2_with fail
            refine bodyPost_ret (v := outV r 0 0) (by simp [results, outV, Tryz.results17, go_sem, s3.1, s3.2.1, s3.2.2]) rfl ⟨?_, ?_⟩
            · rw [HAN.out, HQ.out]
            · rw [HBE.out]
              exact set3_low Lwp.out _ _ _
          · have HQ := hideP (ha2 hk)
            have hkl : (kb.toList == s.toList) = false := by rw [list_eqP]; exact decide_eq_false hk
            have cc := three Rwp.out
            have ff := fun o => frozen_of_row wp g o _ _ Rwp.out
            obtain ⟨cc0, cc1, cc2⟩ := cc
            have s3 := set3_cells Rwp.out (.string ⟨#[]⟩) (.int .i64 0) (.int .i64 3)
            go_wp2_with fail
            refine bodyPost_ret (v := outV ⟨#[]⟩ 0 3) (by simp [results, outV, Tryz.results17, go_sem, s3.1, s3.2.1, s3.2.2]) rfl ⟨?_, ?_⟩
            · rw [HAN.out, HQ.out]
            · rw [HBE.out]
              exact set3_low Lwp.out _ _ _
        · have e0 : (((t[0]'ht0).toNat : Int) == 0) = false := by rw [hx0, beq_eq_false_iff_ne]; omega
          have e1 : (((t[0]'ht0).toNat : Int) == 1) = false := by rw [hx0, beq_eq_false_iff_ne]; omega
          clear hx0
          go_wp2_with fail
          have Rx : Hid ((w1.alloc (.cells #[.string t, .int .i64 0, .int .i64 0] 26)).heap[g]? = some (.cells #[.string ⟨#[]⟩, .int .i64 0, .int .i64 0] 26 (0, 0))) := blk_low R1.out ((Below.refl _ _).alloc (Nat.le_refl _) _)
          have Lx : Hid (Below g w (w1.alloc (.cells #[.string t, .int .i64 0, .int .i64 0] 26))) := low2 HBE.out L1.out ((Below.refl _ _).alloc (Nat.le_refl _) _)
          generalize hww : w1.alloc (.cells #[.string t, .int .i64 0, .int .i64 0] 26) = wx at Rx Lx ⊢
          clear hww
          have Rwx := Rx
          have Lwx := Lx
          clear Rx Lx
          have hrs : (⟨#[]⟩ : ByteArray).size ≤ 1048576 := (by decide)
          refine (pack_spec ⟨#[]⟩ _ hrs).mono ?_
          rintro e wp ⟨rfl, hbp⟩
          have Rwp := hideP (blk_low Rwx.out hbp)
          have Lwp := hideP (low2 HBE.out Lwx.out hbp)
          clear hbp
          obtain ⟨kb, hkb⟩ : ∃ x, x = packB ⟨#[]⟩ := ⟨_, rfl⟩
          obtain ⟨ha1, ha2⟩ := ansT_read HSE.out htz h4 (r := ⟨#[]⟩) (fun b h1 h2 => by
                rcases inner_case h1 h2 with k | k
                · have q1 := HB0.out; have q2 := k.2.2; omega
                · have q1 := HB0.out; have q2 := k.2.2.1; omega)
          rw [← hkb] at ha1 ha2 ⊢
          clear hkb
          by_cases hk : kb = s
          · have HQ := hideP (ha1 hk)
            subst hk
            have cc := three Rwp.out
            have ff := fun o => frozen_of_row wp g o _ _ Rwp.out
            obtain ⟨cc0, cc1, cc2⟩ := cc
            have s3 := set3_cells Rwp.out (.string (⟨#[]⟩)) (.int .i64 0) (.int .i64 0)
            go_wp2_with fail
            refine bodyPost_ret (v := outV ⟨#[]⟩ 0 0) (by simp [results, outV, Tryz.results17, go_sem, s3.1, s3.2.1, s3.2.2]) rfl ⟨?_, ?_⟩
            · rw [HAN.out, HQ.out]
            · rw [HBE.out]
              exact set3_low Lwp.out _ _ _
          · have HQ := hideP (ha2 hk)
            have hkl : (kb.toList == s.toList) = false := by rw [list_eqP]; exact decide_eq_false hk
            have cc := three Rwp.out
            have ff := fun o => frozen_of_row wp g o _ _ Rwp.out
            obtain ⟨cc0, cc1, cc2⟩ := cc
            have s3 := set3_cells Rwp.out (.string ⟨#[]⟩) (.int .i64 0) (.int .i64 3)
            go_wp2_with fail
            refine bodyPost_ret (v := outV ⟨#[]⟩ 0 3) (by simp [results, outV, Tryz.results17, go_sem, s3.1, s3.2.1, s3.2.2]) rfl ⟨?_, ?_⟩
            · rw [HAN.out, HQ.out]
            · rw [HBE.out]
              exact set3_low Lwp.out _ _ _
    · have ht0i : ¬ (0 : Int) < (t.size : Int) := by omega
      go_wp2_with fail
      have Rx : Hid ((w1.alloc (.cells #[.string t, .int .i64 0, .int .i64 0] 26)).heap[g]? = some (.cells #[.string ⟨#[]⟩, .int .i64 0, .int .i64 0] 26 (0, 0))) := blk_low R1.out ((Below.refl _ _).alloc (Nat.le_refl _) _)
      have Lx : Hid (Below g w (w1.alloc (.cells #[.string t, .int .i64 0, .int .i64 0] 26))) := low2 HBE.out L1.out ((Below.refl _ _).alloc (Nat.le_refl _) _)
      generalize hww : w1.alloc (.cells #[.string t, .int .i64 0, .int .i64 0] 26) = wx at Rx Lx ⊢
      clear hww
      have Rwx := Rx
      have Lwx := Lx
      clear Rx Lx
      have hrs : (⟨#[]⟩ : ByteArray).size ≤ 1048576 := (by decide)
      refine (pack_spec ⟨#[]⟩ _ hrs).mono ?_
      rintro e wp ⟨rfl, hbp⟩
      have Rwp := hideP (blk_low Rwx.out hbp)
      have Lwp := hideP (low2 HBE.out Lwx.out hbp)
      clear hbp
      obtain ⟨kb, hkb⟩ : ∃ x, x = packB ⟨#[]⟩ := ⟨_, rfl⟩
      obtain ⟨ha1, ha2⟩ := ansT_read HSE.out htz h4 (r := ⟨#[]⟩) (fun b h1 h2 => by
            rcases inner_case h1 h2 with k | k
            · exact absurd k.2.1 ht0
            · exact absurd k.2.1 ht0)
      rw [← hkb] at ha1 ha2 ⊢
      clear hkb
      by_cases hk : kb = s
      · have HQ := hideP (ha1 hk)
        subst hk
        have cc := three Rwp.out
        have ff := fun o => frozen_of_row wp g o _ _ Rwp.out
        obtain ⟨cc0, cc1, cc2⟩ := cc
        have s3 := set3_cells Rwp.out (.string (⟨#[]⟩)) (.int .i64 0) (.int .i64 0)
        go_wp2_with fail
        refine bodyPost_ret (v := outV ⟨#[]⟩ 0 0) (by simp [results, outV, Tryz.results17, go_sem, s3.1, s3.2.1, s3.2.2]) rfl ⟨?_, ?_⟩
        · rw [HAN.out, HQ.out]
        · rw [HBE.out]
          exact set3_low Lwp.out _ _ _
      · have HQ := hideP (ha2 hk)
        have hkl : (kb.toList == s.toList) = false := by rw [list_eqP]; exact decide_eq_false hk
        have cc := three Rwp.out
        have ff := fun o => frozen_of_row wp g o _ _ Rwp.out
        obtain ⟨cc0, cc1, cc2⟩ := cc
        have s3 := set3_cells Rwp.out (.string ⟨#[]⟩) (.int .i64 0) (.int .i64 3)
        go_wp2_with fail
        refine bodyPost_ret (v := outV ⟨#[]⟩ 0 3) (by simp [results, outV, Tryz.results17, go_sem, s3.1, s3.2.1, s3.2.2]) rfl ⟨?_, ?_⟩
        · rw [HAN.out, HQ.out]
        · rw [HBE.out]
          exact set3_low Lwp.out _ _ _
  · have HAN := hideP (ansU_no hc0 hu)
    have HU := hideP hu
    have hc' : (c != 0) = true := by simp; exact hc0
    clear hu hc0
    go_enter Tryz.func17, Tryz.ntmps17
    go_wp2_with fail
    rw [← hg]
    generalize hww : w.alloc (.cells #[.string ⟨#[]⟩, .int .i64 0, .int .i64 0] 26) = w0 at HR0 HL0 ⊢
    clear hww hg
    refine (unseal_spec s _ (by unfold maxLen; omega)).mono ?_
    rintro e w1 ⟨rfl, hb1⟩
    have R1 := hideP (blk_low HR0.out hb1)
    have L1 := hideP (low2 HBE.out HL0.out hb1)
    clear hb1 HR0 HL0
    rw [HU.out]
    unfold outV
    obtain ⟨cc0, cc1, cc2⟩ := three R1.out
    have ff := fun o => frozen_of_row w1 g o _ _ R1.out
    have s3 := fun o => set3_alloc R1.out (.string ⟨#[]⟩) (.int .i64 0) (.int .i64 c) o
    have HGW : Hid (g < w1.heap.size) := (Array.getElem?_eq_some_iff.1 R1.out).1
    have hgw := HGW.out
    go_wp2_with fail
    refine bodyPost_ret (v := outV ⟨#[]⟩ 0 c) (by simp [results, outV, Tryz.results17, go_sem, (s3 _).1, (s3 _).2.1, (s3 _).2.2]) rfl ⟨?_, ?_⟩
    · rw [HAN.out]
    · rw [HBE.out]
      exact set3_lowA HBE.out L1.out _ _ _ _
end Go.Proofs.YtjdlgpnhkfdehaaGreatDoor.Up


/- What impl's readBlock hands back, given what readShort does. -/
namespace Go.Proofs.YtjdlgpnhkfdehaaGreatDoor.Up
open Go.Proofs.YtjdlgpnhkfdehaaGreatDoor.Pk
open Go.RowKit
open Go.Proofs.YtjdlgpnhkfdehaaGreatDoor.Sh (bt)
def cutR : Go.Shelf.Ren := ⟨fun | 206 => 167 | n => n, fun | 9 => 9 | 4 => 4 | 3 => 3 | n => n, fun | n => n⟩
theorem cutL : Go.Proofs.Lays.n206 Tryz.prog cutR := {
 mixed := by kernel_rfl
 f206 := Tryz.func167.trans (congrArg some (by kernel_rfl))
 t3 := Tryz.underlying3
 a3 := Tryz.isAgg3
 z3 := Tryz.sizeOf3
 v3 := Tryz.zeroValue3
 t4 := Tryz.underlying4
 a4 := Tryz.isAgg4
 z4 := Tryz.sizeOf4
 v4 := Tryz.zeroValue4
 t9 := Tryz.underlying9
 a9 := Tryz.isAgg9
 z9 := Tryz.sizeOf9
 v9 := Tryz.zeroValue9 }
theorem has_one (t : ByteArray) (k : UInt8) : Lib.hasPrefix t.data.toList [k] = decide (0 < t.size ∧ bt t 0 = k.toNat) := by
 have hz : t.size = t.data.toList.length := by rw [Array.length_toList]; rfl
 have hb : bt t 0 = (t.data.toList.getD 0 0).toNat := by
  unfold Sh.bt
  simp
 rw [hz, hb]
 cases t.data.toList with
 | nil => simp [Lib.hasPrefix]
 | cons x l =>
  have e : Lib.hasPrefix (x :: l) [k] = (k == x) := by
   show [k].isPrefixOf (x :: l) = _
   simp [List.isPrefixOf]
  rw [e]
  by_cases h : k = x
  ·subst h
   simp
  ·have h2 : ¬ x.toNat = k.toNat := fun q => h (UInt8.toNat_inj.1 q).symm
   rw [beq_eq_false_iff_ne.2 h, decide_eq_false]
   exact fun q => h2 q.2
theorem size_ext (t : ByteArray) : (t.extract 1 t.size).size ≤ t.size := by
 rw [ByteArray.size_extract]
 omega
set_option maxRecDepth 100000 in
theorem cutLite_any (t : ByteArray) (k : UInt8) (w : World) (ht : t.size ≤ 1048576) :
  Calls Tryz.prog 166 #[.string t, .string ⟨#[k]⟩] w fun e w' => ((0 < t.size ∧ bt t 0 = k.toNat) ∧ e = .returned (.tuple #[.string (t.extract 1 t.size), .bool true]) ∨ ¬ (0 < t.size ∧ bt t 0 = k.toNat) ∧ e = .returned (.tuple #[.string t, .bool false])) ∧ w' = w := by
 have HP := hideP (Any.stringslite_HasPrefix cutL t ⟨#[k]⟩ w)
 have HO := hideP (has_one t k)
 by_cases h : 0 < t.size ∧ bt t 0 = k.toNat
 ·rw [show (⟨#[k]⟩ : ByteArray).data.toList = [k] from rfl, HO.out, decide_eq_true h] at HP
  have h1 : (1 : Int) ≤ (t.size : Int) := by omega
  go_enter Tryz.func166, Tryz.ntmps166
  go_wp2_with fail
  refine HP.out.mono ?_
  rintro e w' ⟨rfl, rfl⟩
  have hk : (⟨#[k]⟩ : ByteArray).size = 1 := rfl
  go_wp2_with fail
  go_ret2
  exact ⟨.inl ⟨h, rfl⟩, rfl⟩
 ·rw [show (⟨#[k]⟩ : ByteArray).data.toList = [k] from rfl, HO.out, decide_eq_false h] at HP
  go_enter Tryz.func166, Tryz.ntmps166
  go_wp2_with fail
  refine HP.out.mono ?_
  rintro e w' ⟨rfl, rfl⟩
  go_wp2_with fail
  go_ret2
  exact ⟨.inr ⟨h, rfl⟩, rfl⟩
theorem cut_any (t : ByteArray) (k : UInt8) (w : World) (ht : t.size ≤ 1048576) :
  Calls Tryz.prog 118 #[.string t, .string ⟨#[k]⟩] w fun e w' => ((0 < t.size ∧ bt t 0 = k.toNat) ∧ e = .returned (.tuple #[.string (t.extract 1 t.size), .bool true]) ∨ ¬ (0 < t.size ∧ bt t 0 = k.toNat) ∧ e = .returned (.tuple #[.string t, .bool false])) ∧ w' = w := by
 go_enter Tryz.func118, Tryz.ntmps118
 go_wp2_with fail
 refine (cutLite_any t k w ht).mono ?_
 rintro e w' ⟨⟨h, rfl⟩ | ⟨h, rfl⟩, rfl⟩
 ·go_wp2_with fail
  go_ret2
  exact ⟨.inl ⟨h, rfl⟩, rfl⟩
 ·go_wp2_with fail
  go_ret2
  exact ⟨.inr ⟨h, rfl⟩, rfl⟩
theorem has_any (t : ByteArray) (k : UInt8) (w : World) :
  Calls Tryz.prog 119 #[.string t, .string ⟨#[k]⟩] w fun e w' => e = .returned (.bool (decide (0 < t.size ∧ bt t 0 = k.toNat))) ∧ w' = w := by
 have := Bi.prefix_any t ⟨#[k]⟩ w
 rw [show (⟨#[k]⟩ : ByteArray).data.toList = [k] from rfl, has_one t k] at this
 exact this
set_option maxRecDepth 100000 in
set_option maxHeartbeats 1000000 in
theorem read_block (ev : Value) (HS : Hid (∀ (s : ByteArray) (w : World), Glob w ev → 1 ≤ s.size → s.size ≤ 8000 → Calls Tryz.prog 120 #[.string s] w fun e w' => (∃ r v, e = .returned (.tuple #[.string r, v]) ∧ (v = .nilIface ∨ v = ev) ∧ r.size ≤ 8000 ∧ ∀ b, Good s b → r = b ∧ v = .nilIface) ∧ Below w.heap.size w w'))
  (t : ByteArray) (w : World) (ht : t.size ≤ 8000) (hg : Glob w ev) :
  Calls Tryz.prog 64 #[.string t] w fun e w' => (∃ r v, e = .returned (.tuple #[.string r, v]) ∧ (v = .nilIface ∨ v = ev) ∧ r.size ≤ 8000 ∧ ∀ b : ByteArray, b.size ≤ 48 → innerV b = t → r = b ∧ v = .nilIface) ∧ Below w.heap.size w w' := by
 have HG := hideP hg
 have g0 : w.cell? ⟨0, 0, none⟩ = some ev := hg.2
 clear hg
 go_enter Tryz.func64, Tryz.ntmps64
 go_wp2_with fail
 refine (cut_any t 0 w (by omega)).mono ?_
 rintro e w' ⟨⟨h, rfl⟩ | ⟨h, rfl⟩, rfl⟩
 ·go_wp2_with fail
  go_ret2
  refine ⟨⟨_, _, rfl, .inl rfl, by have := size_ext t; omega, fun b h1 h2 => ?_⟩, Below.refl _ _⟩
  rcases inner_case h1 h2 with k | k
  ·have q1 := k.2.2
   have q2 : bt t 0 = 0 := h.2
   omega
  ·exact ⟨k.2.2.2, rfl⟩
 ·have H0 := hideP h
  clear h
  go_wp2_with fail
  refine (has_any t 1 _).mono ?_
  rintro e w2 ⟨rfl, rfl⟩
  by_cases h1 : 0 < t.size ∧ bt t 0 = (1 : UInt8).toNat
  ·rw [decide_eq_true h1]
   have H1 := hideP h1
   clear h1
   go_wp2_with fail
   refine (HS.out t _ HG.out (by have := H1.out.1; omega) ht).mono ?_
   rintro e w3 ⟨⟨r, v, rfl, hv, hrz, hr⟩, hb⟩
   have HV := hideP hv
   have HR := hideP hr
   have HB := hideP hb
   clear hv hr hb
   go_wp2_with fail
   go_ret2
   refine ⟨⟨_, _, rfl, HV.out, hrz, fun b h1 h2 => ?_⟩, HB.out⟩
   rcases inner_case h1 h2 with k | k
   ·exact HR.out b k.1
   ·exact absurd ⟨k.2.1, k.2.2.1⟩ H0.out
  ·rw [decide_eq_false h1]
   have H1 := hideP h1
   clear h1
   go_wp2_with fail
   go_quiet (fail)
   go_wp2_with fail
   go_ret2
   refine ⟨⟨_, _, rfl, .inr rfl, by decide, fun b h1 h2 => ?_⟩, below_drewN (Below.refl _ _) _⟩
   rcases inner_case h1 h2 with k | k
   ·exact absurd ⟨k.2.1, k.2.2⟩ H1.out
   ·exact absurd ⟨k.2.1, k.2.2.1⟩ H0.out
end Go.Proofs.YtjdlgpnhkfdehaaGreatDoor.Up


/- errors.Is of no error. -/
namespace Go.Proofs.YtjdlgpnhkfdehaaGreatDoor.Up
open Go.Proofs.YtjdlgpnhkfdehaaGreatDoor.Pk
open Go.RowKit
theorem eq_nil (tid : TypeId) (pv : Value) (u : World) : Sem.run Tryz.prog (binOp BinOp.eql 72 .nilIface (.iface tid pv)) u = .ok (.bool false) u := by kernel_rfl
set_option maxRecDepth 100000 in
theorem is_nil (tid : TypeId) (pv : Value) (w : World) :
  Calls Tryz.prog 65 #[.nilIface, .iface tid pv] w fun e w' => e = .returned (.bool false) ∧ w' = w := by
 have heq := eq_nil tid pv
 go_enter Tryz.func65, Tryz.ntmps65
 go_wp2
 go_ret
 exact ⟨rfl, rfl⟩
end Go.Proofs.YtjdlgpnhkfdehaaGreatDoor.Up


/- What impl's BlockUnpack answers, given what readShort does and that errors.Is knows the error itself. -/
namespace Go.Proofs.YtjdlgpnhkfdehaaGreatDoor.Up
open Go.Proofs.YtjdlgpnhkfdehaaGreatDoor.Pk
open Go.RowKit
open Go.Proofs.YtjdlgpnhkfdehaaGreatDoor.Se (sealV unsealV outV unseal_impl)
def ShortOk (ev : Value) : Prop := ∀ (s : ByteArray) (w : World), Glob w ev → 1 ≤ s.size → s.size ≤ 8000 → Calls Tryz.prog 120 #[.string s] w fun e w' => (∃ r v, e = .returned (.tuple #[.string r, v]) ∧ (v = .nilIface ∨ v = ev) ∧ r.size ≤ 8000 ∧ ∀ b, Good s b → r = b ∧ v = .nilIface) ∧ Below w.heap.size w w'
def IsOk (ev : Value) : Prop := ∀ w : World, Calls Tryz.prog 65 #[ev, ev] w fun e w' => e = .returned (.bool true) ∧ Below w.heap.size w w'
set_option maxRecDepth 100000 in
set_option maxHeartbeats 4000000 in
theorem unpack_impl (tid : TypeId) (pv : Value) (HS : Hid (ShortOk (.iface tid pv))) (HI : Hid (IsOk (.iface tid pv))) (s : ByteArray) (w : World) (hs : s.size ≤ 1048576) (hgl : Glob w (.iface tid pv)) :
  Calls Tryz.prog 12 #[.string s] w fun e w' => e = .returned (ansU s) ∧ Below w.heap.size w w' := by
 obtain ⟨g, hg⟩ : ∃ g, g = w.heap.size := ⟨_, rfl⟩
 have HBE := hideP hg.symm
 have HR0 : Hid ((w.alloc (.cells #[.string ⟨#[]⟩, .int .i64 0, .int .i64 0] 26)).heap[g]? = some (.cells #[.string ⟨#[]⟩, .int .i64 0, .int .i64 0] 26 (0, 0))) := by rw [hg]; exact heap_alloc_new w _
 have HL0 : Hid (Below g w (w.alloc (.cells #[.string ⟨#[]⟩, .int .i64 0, .int .i64 0] 26))) := by rw [hg]; exact (Below.refl _ _).alloc (Nat.le_refl _) _
 have HG0 : Hid (Glob (w.alloc (.cells #[.string ⟨#[]⟩, .int .i64 0, .int .i64 0] 26)) (.iface tid pv)) := glob_keep hgl ((Below.refl _ _).alloc (Nat.le_refl _) _)
 clear hgl
 rcases unseal_case s with ⟨t, hu, hse, htz, h4⟩ | ⟨c, hc0, hu⟩
 ·have HU := hideP hu
  have HSE := hideP hse
  have HAN := hideP (ansU_yes hu)
  clear hu hse
  go_enter Tryz.func12, Tryz.ntmps12
  go_wp2_with fail
  rw [← hg]
  generalize hww : w.alloc (.cells #[.string ⟨#[]⟩, .int .i64 0, .int .i64 0] 26) = w0 at HR0 HL0 HG0 ⊢
  clear hww hg
  refine (unseal_impl s _ (by unfold maxLen; omega)).mono ?_
  rintro e w1 ⟨rfl, hb1⟩
  have R1 := hideP (blk_low HR0.out hb1)
  have L1 := hideP (low2 HBE.out HL0.out hb1)
  have G1 := hideP (glob_keep HG0.out hb1)
  clear hb1 HR0 HL0 HG0
  rw [HU.out]
  unfold outV
  go_wp2_with fail
  have Rwx : Hid ((w1.alloc (.cells #[.string t, .int .i64 0, .int .i64 0] 26)).heap[g]? = some (.cells #[.string ⟨#[]⟩, .int .i64 0, .int .i64 0] 26 (0, 0))) := blk_low R1.out ((Below.refl _ _).alloc (Nat.le_refl _) _)
  have Lwx : Hid (Below g w (w1.alloc (.cells #[.string t, .int .i64 0, .int .i64 0] 26))) := low2 HBE.out L1.out ((Below.refl _ _).alloc (Nat.le_refl _) _)
  have Gwx : Hid (Glob (w1.alloc (.cells #[.string t, .int .i64 0, .int .i64 0] 26)) (.iface tid pv)) := glob_keep G1.out ((Below.refl _ _).alloc (Nat.le_refl _) _)
  generalize hww : w1.alloc (.cells #[.string t, .int .i64 0, .int .i64 0] 26) = wx at Rwx Lwx Gwx ⊢
  clear hww R1 L1 G1
  refine (read_block (.iface tid pv) HS t wx (by omega) Gwx.out).mono ?_
  rintro e w2 ⟨⟨r, v, rfl, hv, hrz, hr⟩, hb2⟩
  have R2 := hideP (blk_low Rwx.out hb2)
  have L2 := hideP (low2 HBE.out Lwx.out hb2)
  have G2 := hideP (glob_keep Gwx.out hb2)
  have HR := hideP hr
  have g2 := G2.out.2
  clear hb2 hr Rwx Lwx Gwx
  rcases hv with rfl | rfl
  ·go_wp2_with fail
   refine (is_nil tid pv w2).mono ?_
   rintro e w3 ⟨rfl, rfl⟩
   go_wp2_with fail
   refine (pack_impl r _ (by omega)).mono ?_
   rintro e wp ⟨rfl, hbp⟩
   have Rwp := hideP (blk_low R2.out hbp)
   have Lwp := hideP (low2 HBE.out L2.out hbp)
   clear hbp g2 G2 R2 L2
   obtain ⟨kb, hkb⟩ : ∃ x, x = packB r := ⟨_, rfl⟩
   obtain ⟨ha1, ha2⟩ := ansT_read HSE.out htz h4 (r := r) (fun b h1 h2 => (HR.out b h1 h2).1)
   rw [← hkb] at ha1 ha2 ⊢
   clear hkb
   by_cases hk : kb = s
   ·have HQ := hideP (ha1 hk)
    subst hk
    obtain ⟨cc0, cc1, cc2⟩ := three Rwp.out
    have ff := fun o => frozen_of_row wp g o _ _ Rwp.out
    have s3 := set3_cells Rwp.out (.string r) (.int .i64 0) (.int .i64 0)
    go_wp2_with fail
    refine bodyPost_ret (v := outV r 0 0) (by simp [results, outV, Tryz.results12, go_sem, s3.1, s3.2.1, s3.2.2]) rfl ⟨?_, ?_⟩
    ·rw [HAN.out, HQ.out]
    ·rw [HBE.out]
     exact set3_low Lwp.out _ _ _
   ·have HQ := hideP (ha2 hk)
    have hkl : (kb.toList == s.toList) = false := by rw [list_eqP]; exact decide_eq_false hk
    obtain ⟨cc0, cc1, cc2⟩ := three Rwp.out
    have ff := fun o => frozen_of_row wp g o _ _ Rwp.out
    have s3 := set3_cells Rwp.out (.string ⟨#[]⟩) (.int .i64 0) (.int .i64 3)
    go_wp2_with fail
    refine bodyPost_ret (v := outV ⟨#[]⟩ 0 3) (by simp [results, outV, Tryz.results12, go_sem, s3.1, s3.2.1, s3.2.2]) rfl ⟨?_, ?_⟩
    ·rw [HAN.out, HQ.out]
    ·rw [HBE.out]
     exact set3_low Lwp.out _ _ _
  ·have HQ := hideP (ansT_none (t := t) fun b h1 h2 => by have := (HR.out b h1 h2).2; cases this)
   go_wp2_with fail
   refine (HI.out w2).mono ?_
   rintro e wp ⟨rfl, hbp⟩
   have Rwp := hideP (blk_low R2.out hbp)
   have Lwp := hideP (low2 HBE.out L2.out hbp)
   clear hbp g2 G2 R2 L2
   obtain ⟨cc0, cc1, cc2⟩ := three Rwp.out
   have ff := fun o => frozen_of_row wp g o _ _ Rwp.out
   have s3 := set3_cells Rwp.out (.string ⟨#[]⟩) (.int .i64 0) (.int .i64 3)
   go_wp2_with fail
   refine bodyPost_ret (v := outV ⟨#[]⟩ 0 3) (by simp [results, outV, Tryz.results12, go_sem, s3.1, s3.2.1, s3.2.2]) rfl ⟨?_, ?_⟩
   ·rw [HAN.out, HQ.out]
   ·rw [HBE.out]
    exact set3_low Lwp.out _ _ _
 ·have HAN := hideP (ansU_no hc0 hu)
  have HU := hideP hu
  have hc' : (c != 0) = true := by simp; exact hc0
  clear hu hc0
  go_enter Tryz.func12, Tryz.ntmps12
  go_wp2_with fail
  rw [← hg]
  generalize hww : w.alloc (.cells #[.string ⟨#[]⟩, .int .i64 0, .int .i64 0] 26) = w0 at HR0 HL0 HG0 ⊢
  clear hww hg
  refine (unseal_impl s _ (by unfold maxLen; omega)).mono ?_
  rintro e w1 ⟨rfl, hb1⟩
  have R1 := hideP (blk_low HR0.out hb1)
  have L1 := hideP (low2 HBE.out HL0.out hb1)
  clear hb1 HR0 HL0 HG0
  rw [HU.out]
  unfold outV
  obtain ⟨cc0, cc1, cc2⟩ := three R1.out
  have ff := fun o => frozen_of_row w1 g o _ _ R1.out
  have s3 := fun o => set3_alloc R1.out (.string ⟨#[]⟩) (.int .i64 0) (.int .i64 c) o
  have HGW : Hid (g < w1.heap.size) := (Array.getElem?_eq_some_iff.1 R1.out).1
  have hgw := HGW.out
  go_wp2_with fail
  refine bodyPost_ret (v := outV ⟨#[]⟩ 0 c) (by simp [results, outV, Tryz.results12, go_sem, (s3 _).1, (s3 _).2.1, (s3 _).2.2]) rfl ⟨?_, ?_⟩
  ·rw [HAN.out]
  ·rw [HBE.out]
   exact set3_lowA HBE.out L1.out _ _ _ _
end Go.Proofs.YtjdlgpnhkfdehaaGreatDoor.Up

