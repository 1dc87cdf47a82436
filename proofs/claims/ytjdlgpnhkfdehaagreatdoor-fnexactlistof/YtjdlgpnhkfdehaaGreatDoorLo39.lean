/- Texts put together: FrontSpec, FrontB, BwtImpl, FrontO, WholeSpec. -/
import Derived.Test.YtjdlgpnhkfdehaaGreatDoorLo38
import Derived.Test.YtjdlgpnhkfdehaaGreatDoorLo8
import Derived.Test.YtjdlgpnhkfdehaaGreatDoorLo31
import Derived.Test.YtjdlgpnhkfdehaaGreatDoorLo21
import Derived.WalkMore
import Derived.Scope
import Derived.Test.YtjdlgpnhkfdehaaGreatDoorLo24
import Derived.Test.YtjdlgpnhkfdehaaGreatDoorLo37
/- The row of all bytes in memory: how the specification makes it, and brings a byte to its front. -/
namespace Go.Proofs.YtjdlgpnhkfdehaaGreatDoor.Fr
open Go.RowKit
open Go.Proofs.YtjdlgpnhkfdehaaGreatDoor.Sh (IsB rowF upd made_row upd_same upd_other)
open Go.Proofs.YtjdlgpnhkfdehaaGreatDoor.Ze (hideZ)
open Go.Proofs.YtjdlgpnhkfdehaaGreatDoor.St (Aft)
set_option maxRecDepth 100000 in
set_option maxHeartbeats 1000000 in
theorem row_spec (w : World) :
    Calls Tryz.prog 180 #[] w fun e w' => e = .returned (.slice (some ⟨w.heap.size, 0, none⟩) 256 256) ∧ IsB w' w.heap.size 5 .u8 256 row0 ∧ Below w.heap.size w w' := by
  obtain ⟨i0, hi, hz0, hz1, hz2⟩ := info_parts Nu.Tryz.infoJ5
  go_enter Tryz.func180, Tryz.ntmps180
  go_wp2_with (at_make; refine wpList_make_full _ rfl (.const (.int .i64 256)) (.const (.int .i64 256)) 22 rfl w.heap.size 5 i0 (.int .u8 0) 1 Tryz.underlying22 hi hz0 hz1 .i64 .i64 _ _ 256 rfl rfl (by simp) (by simp) (by rw [hz2]; omega) (by unfold maxLen; omega) (Nat.le_refl _) ?_; intro w1 hown1 hgrow1; have HR := hideZ (made_row hown1); have HB := hideZ ((Below.refl w.heap.size w).grown hgrow1 (Nat.le_refl _) (by simp)); clear hown1 hgrow1)
  go_loopw [2] (fun i wr => ∃ k : Nat, i = .int .i64 k ∧ k ≤ 256 ∧ IsB wr w.heap.size 5 .u8 256 (rise k) ∧ Below w.heap.size w wr) (fun i _ => 256 - (intOf i).toNat)
  case atStart => exact ⟨0, rfl, by omega, HR.out.congr (fun j _ => by unfold rise; rw [if_neg (by omega)]), HB.out⟩
  case round =>
    obtain ⟨k, rfl, hk, h1, hbel⟩ := hrel
    have G1 := hideZ h1
    have GB := hideZ hbel
    by_cases hlt : k < 256
    · have ck := h1.cell (j := k) hlt
      have fk := h1.frozen k
      have hwr : ((k : Int)) % 256 = (k : Int) := by omega
      have HN := hideZ (h1.set k (k : Int))
      clear h1 hbel
      go_wp2_with fail
      go_roundw
      case rel => exact ⟨k + 1, by go_num, by omega, HN.out.congr (fun j _ => rise_next k j), GB.out.setCell (by simp) _⟩
      case measure => simp [intOf]; omega
    · obtain rfl : k = 256 := by omega
      have G2 := hideZ (h1.congr (fun j hj => rise_all j hj))
      clear h1 hbel
      go_wp2_with fail
      go_ret
      exact ⟨rfl, G2.out, GB.out⟩
def downF (f : Nat → Int) (p k : Nat) : Nat → Int := fun j => if k < j ∧ j ≤ p then f (j - 1) else f j
theorem down_start (f : Nat → Int) (p j : Nat) : downF f p p j = f j := by
  unfold downF
  rw [if_neg (by omega)]
theorem down_next (f : Nat → Int) (p k j : Nat) (h : k + 1 ≤ p) : upd (downF f p (k + 1)) (k + 1) (f k) j = downF f p k j := by
  unfold upd downF
  by_cases e : j = k + 1
  · subst e
    rw [if_pos rfl, if_pos (by omega)]
    rfl
  · rw [if_neg e]
    by_cases h2 : k + 1 < j ∧ j ≤ p
    · rw [if_pos h2, if_pos (by omega)]
    · rw [if_neg h2, if_neg (by omega)]
theorem down_at (f : Nat → Int) (p k : Nat) : downF f p (k + 1) k = f k := by
  unfold downF
  rw [if_neg (by omega)]
theorem down_front (f : Nat → Int) (p j : Nat) : upd (downF f p 0) 0 (f p) j = front f p j := by
  unfold upd downF front
  by_cases h : j = 0
  · rw [if_pos h, if_pos h]
  · rw [if_neg h, if_neg h]
    by_cases h2 : j ≤ p
    · rw [if_pos (by omega), if_pos h2]
    · rw [if_neg (by omega), if_neg h2]
set_option maxRecDepth 100000 in
set_option maxHeartbeats 1000000 in
theorem front_spec (g p c : Nat) (t : TypeId) (f : Nat → Int) (w : World) (hb : IsB w g t .u8 256 f) (hp : p < 256) :
    Calls Tryz.prog 182 #[.slice (some ⟨g, 0, none⟩) 256 c, .int .i64 p] w fun e w' => e = .returned (.tuple #[]) ∧ IsB w' g t .u8 256 (front f p) ∧ Aft g w w' := by
  have c0 := hb.cell hp
  have HB := hideZ hb
  have HA := hideZ (Aft.refl g w)
  obtain ⟨x, hx⟩ : ∃ x, x = f p := ⟨_, rfl⟩
  have HX := hideZ hx
  rw [← hx] at c0
  clear hx hb
  go_enter Tryz.func182, Tryz.ntmps182
  go_wp2_with fail
  go_loopw [1] (fun i wr => ∃ k : Nat, i = .int .i64 k ∧ k ≤ p ∧ IsB wr g t .u8 256 (downF f p k) ∧ Aft g w wr) (fun i _ => (intOf i).toNat)
  case atStart => exact ⟨p, rfl, Nat.le_refl _, HB.out.congr (fun j _ => (down_start f p j).symm), HA.out⟩
  case round =>
    obtain ⟨k, rfl, hk, h1, ha⟩ := hrel
    have G1 := hideZ h1
    have GA := hideZ ha
    cases k with
    | zero =>
      have c1 := h1.cell (j := 0) (by omega)
      have f1 := h1.frozen 0
      have HF := hideZ (h1.set 0 x)
      clear h1 ha
      go_wp2_with fail
      refine bodyPost_end (v := .tuple #[]) (by simp [results, Tryz.results182, go_sem]) rfl ⟨rfl, HF.out.congr (fun j _ => ?_), GA.out.set 0 _⟩
      rw [HX.out]
      exact down_front f p j
    | succ k =>
      have c1 := h1.cell (j := k) (by omega)
      have c2 := h1.cell (j := k + 1) (by omega)
      have f1 := h1.frozen (k + 1)
      obtain ⟨y, hy⟩ : ∃ y, y = f k := ⟨_, rfl⟩
      rw [down_at, ← hy] at c1
      have HF : Hid (IsB (wr.setCell ⟨g, k + 1, none⟩ (.int .u8 y)) g t .u8 256 (downF f p k)) := by
        have := (h1.set (k + 1) y).congr (f' := downF f p k) (fun j _ => by rw [hy]; exact down_next f p k j hk)
        exact this
      have e1 : ((k + 1 : Nat) : Int) = (k : Int) + 1 := by omega
      have e2 : ((k : Int) + 1).toNat = k + 1 := by omega
      rw [e1]
      clear h1 ha hy e1
      go_wp2_with fail
      go_roundw
      case rel => exact ⟨k, by go_num, by omega, HF.out, GA.out.set (k + 1) _⟩
      case measure => simp [intOf]
end Go.Proofs.YtjdlgpnhkfdehaaGreatDoor.Fr


/- What both FrontBack answer. -/
namespace Go.Proofs.YtjdlgpnhkfdehaaGreatDoor.Fr
open Go.RowKit
open Go.Proofs.YtjdlgpnhkfdehaaGreatDoor.Sh (IsB rowF upd made_row upd_same upd_other strF)
open Go.Proofs.YtjdlgpnhkfdehaaGreatDoor.Ze (hideZ numsR upTo upTo_yes numsR_of numsR_long numsR_yes nums_spec)
open Go.Proofs.YtjdlgpnhkfdehaaGreatDoor.Bi (upTo_impl)
open Go.Proofs.YtjdlgpnhkfdehaaGreatDoor.St (Aft)
open Go.Proofs.YtjdlgpnhkfdehaaGreatDoor.In (Ints)
open Go.Proofs.YtjdlgpnhkfdehaaGreatDoor.Nu (ret_strJ bv own_string app_below)
def fillB (b : List UInt8) : Nat → Nat := fun j => (b.getD j 0).toNat
end Go.Proofs.YtjdlgpnhkfdehaaGreatDoor.Fr


/- What the program's Bwt answers. -/
namespace Go.Proofs.YtjdlgpnhkfdehaaGreatDoor.So
open Go.RowKit Go.Sort Go.Proofs
open Go.Proofs.YtjdlgpnhkfdehaaGreatDoor.Sh (bt bt_get bt_lt strF IsB made_row)
def sOut (t : ByteArray) (a c : Nat) : Value := .agg #[.string t, .int .i64 a, .int .i64 c]
def IsR (w : World) (g : Nat) : Prop := w.heap[g]? = some (.cells #[.string ⟨#[]⟩, .int .i64 0, .int .i64 0] 115 (0, 0))
theorem IsR.cells {w : World} {g : Nat} (h : IsR w g) : w.cell? ⟨g, 0, none⟩ = some (.string ⟨#[]⟩) ∧ w.cell? ⟨g, 1, none⟩ = some (.int .i64 0) ∧ w.cell? ⟨g, 2, none⟩ = some (.int .i64 0) ∧ (∀ j, w.frozen? ⟨g, j, none⟩ = false) := by
  refine ⟨?_, ?_, ?_, fun j => frozen_of_row w g j _ _ h⟩
  · rw [cell_of_row w g 0 _ _ (0, 0) h]; rfl
  · rw [cell_of_row w g 1 _ _ (0, 0) h]; rfl
  · rw [cell_of_row w g 2 _ _ (0, 0) h]; rfl
theorem atK_next (f : Nat → Nat) (k : Nat) : (f k = 0 → atK f (k + 1) = k) ∧ (f k ≠ 0 → atK f (k + 1) = atK f k) := by
  constructor
  · intro h; rw [atK, if_pos h]
  · intro h; rw [atK, if_neg h]
set_option maxRecDepth 100000 in
set_option maxHeartbeats 1000000 in
theorem bwt_impl (t : ByteArray) (w : World) (hn : t.size ≤ 1048576) :
    Calls Tryz.prog 105 #[.string t] w fun e w' => e = .returned (sOut (bwtT t) (bwtA t) (bwtC t)) ∧ Below w.heap.size w w' := by
  obtain ⟨i0, hi0, hz0, hz1, hz2⟩ := info_parts Nu.Tryz.infoJ5
  by_cases hbig : 8000 < t.size
  · have HV : Hid (sOut (bwtT t) (bwtA t) (bwtC t) = sOut ⟨#[]⟩ 0 2) := by
      unfold Hid
      rw [(bwt_no (by omega)).1, (bwt_no (by omega)).2, bwtC, if_pos hbig]
    go_enter Tryz.func105, Tryz.ntmps105
    go_wp2_with fail
    refine bodyPost_ret (v := sOut ⟨#[]⟩ 0 2) (by simp [results, sOut, Tryz.results105, go_sem]) rfl ⟨by rw [HV.out], ?_⟩
    exact (Below.refl _ _).alloc (Nat.le_refl _) _
  · have hbig' : ¬ (8000 : Int) < (t.size : Int) := by omega
    by_cases hlong : 48 < t.size
    · have HV : Hid (sOut (bwtT t) (bwtA t) (bwtC t) = sOut ⟨#[]⟩ 0 1) := by
        unfold Hid
        rw [(bwt_no (by omega)).1, (bwt_no (by omega)).2, bwtC, if_neg hbig, if_pos hlong]
      go_enter Tryz.func105, Tryz.ntmps105
      go_wp2_with fail
      refine bodyPost_ret (v := sOut ⟨#[]⟩ 0 1) (by simp [results, sOut, Tryz.results105, go_sem]) rfl ⟨by rw [HV.out], ?_⟩
      exact (Below.refl _ _).alloc (Nat.le_refl _) _
    · have hlong' : ¬ (48 : Int) < (t.size : Int) := by omega
      obtain ⟨w0, hw0⟩ : ∃ w0, w0 = w.alloc (.cells #[.string ⟨#[]⟩, .int .i64 0, .int .i64 0] 115) := ⟨_, rfl⟩
      have z0 : w0.heap.size = w.heap.size + 1 := by rw [hw0]; simp
      have HR0 : Hid (IsR w0 w.heap.size) := by unfold Hid; rw [hw0]; exact heap_alloc_last w _
      have HB0 : Hid (Below w.heap.size w w0) := by unfold Hid; rw [hw0]; exact (Below.refl _ _).alloc (Nat.le_refl _) _
      go_enter Tryz.func105, Tryz.ntmps105
      go_wp2_with (at_make; rw [← hw0]; refine wpList_make_full _ rfl (.tmp 16) (.tmp 16) 22 rfl w0.heap.size 5 i0 (.int .u8 0) 1 Tryz.underlying22 hi0 hz0 hz1 .i64 .i64 _ _ t.size rfl rfl (by simp) (by simp) (by rw [hz2]; omega) (by unfold maxLen; omega) (Nat.le_refl _) ?_; intro w1 hown1 hgrow1; have HT1 := hideO (made_row hown1); have hb1 := (Below.refl w0.heap.size w0).grown hgrow1 (Nat.le_refl _) (by simp); have HR1 : Hid (IsR w1 w.heap.size) := (hb1.block w.heap.size (by omega)).trans HR0.out; have HB1 := hideO (HB0.out.trans (hb1.mono (by omega))); have zz1 := HT1.out.lt; clear hown1 hgrow1 hb1)
      refine (sorted_T t hn w1).mono ?_
      rintro e w2 ⟨g, cap, d, rfl, hg1, hg2, hH, hds, hp, hr, ⟨cur, hty⟩, hb2⟩
      have HH := hideO hH
      have HDS := hideO hds
      have HB2 := hideO (HB1.out.trans (hb2.mono HB1.out.size))
      have HR2 : Hid (IsR w2 w.heap.size) := (hb2.block w.heap.size (by omega)).trans HR1.out
      have HT2 := hideO (HT1.out.below hb2 zz1)
      have z2 := hb2.size
      have HXT : Hid (∀ k, k < t.size → d[k]! < t.size) := fun k hk => by
        have : dF d k ∈ seg (dF d) 0 t.size := by
          rw [seg, List.mem_map]
          exact ⟨k, by simp; omega, by simp⟩
        have := hp.mem_iff.1 this
        have h2 := List.mem_range.1 this
        exact h2
      have HE := hideO (bwt_yes (by omega) (ordF_seg (ord_seg hp hr)))
      clear hH hds hp hr hb2 hty
      go_wp2_with fail
      go_loopw [21, 4] (fun i a wr => ∃ k : Nat, i = .int .i64 k ∧ k ≤ t.size ∧ a = .int .i64 (atK (dF d) k : Nat) ∧ IsB wr (w.heap.size + 1) 5 .u8 t.size (fun j => ((fillL t (dF d) k j : Nat) : Int)) ∧ IsR wr w.heap.size ∧ wr.heap[g]? = w2.heap[g]? ∧ Below w.heap.size w wr) (fun i _ _ => t.size - (intOf i).toNat)
      case atStart => exact ⟨0, rfl, Nat.zero_le _, rfl, by rw [← z0]; exact HT2.out.congr (fun j _ => by simp [fillL]), HR2.out, rfl, HB2.out⟩
      case round =>
        obtain ⟨k, rfl, hk, rfl, htxt, hres, hbg, hbel⟩ := hrel
        have T1 := hideO htxt
        have R1 := hideO hres
        have GB := hideO hbel
        have HBG := hideO hbg
        have hsz := htxt.lt
        clear hbel
        by_cases hlt : k < t.size
        · obtain ⟨x0c, _, x1c, _⟩ := cells_T (holds_block HH.out hbg) (i := k) (by rw [HDS.out]; exact hlt)
          have hkz : (k : Int) < (t.size : Int) := by omega
          have hxt := HXT.out k hlt
          have HN := hideO (fillL_next t (dF d) k)
          have HA := hideO (atK_next (dF d) k)
          have HX : Hid (dF d k = d[k]!) := rfl
          obtain ⟨x, hx⟩ : ∃ x, x = d[k]! := ⟨_, rfl⟩
          rw [← hx] at x0c x1c hxt HX
          rw [HX.out] at HN HA
          obtain ⟨p, hp⟩ : ∃ p, t.size = p + 1 := ⟨t.size - 1, by omega⟩
          have e1 : (t.size : Int) - 1 = (p : Int) := by omega
          have hwp : IntKind.i64.wrap (p : Int) = (p : Int) := by rw [IntKind.wrap_i64]; omega
          have htz := turnV_size t x (by omega)
          have hlast := turnV_last t x hxt
          rw [show t.size - 1 = p by omega] at hlast
          have hpx : p < (turnV t x).size := by omega
          obtain ⟨y, hy, hyt⟩ : ∃ y : UInt8, (turnV t x)[p] = y ∧ y.toNat = lastB t x := ⟨_, rfl, (bt_get _ _ hpx).trans hlast⟩
          rw [← hyt] at HN
          generalize turnV t x = tx at x1c hpx hy htz
          have hpx' : (p : Int) < (tx.size : Int) := by omega
          have c2 := htxt.cell (j := k) hlt
          have f2 := htxt.frozen k
          have hgl : g < wr.heap.size := by
            have := GB.out.size
            have h2 : w2.heap[g]? ≠ none := by rw [Array.getElem?_eq_getElem hg2]; simp
            rw [← hbg] at h2
            exact Nat.lt_of_not_le fun h => h2 (Array.getElem?_eq_none h)
          have HTN := hideO fun W (h : IsB W (w.heap.size + 1) 5 .u8 t.size (fun j => ((fillL t (dF d) k j : Nat) : Int))) => (h.set k (y.toNat : Nat)).congr (fun j _ => HN.out j)
          obtain ⟨m, hm⟩ : ∃ m, m = atK (dF d) k := ⟨_, rfl⟩
          rw [← hm] at HA ⊢
          clear hx htxt hres hbg hlast hyt hm
          have TS := HTN.out wr T1.out
          have RS : IsR (wr.setCell ⟨w.heap.size + 1, k, none⟩ (.int .u8 (y.toNat : Nat))) w.heap.size := by
            unfold IsR
            rw [heap_setCell_other _ _ _ _ (by simp)]
            exact R1.out
          have GS : (wr.setCell ⟨w.heap.size + 1, k, none⟩ (.int .u8 (y.toNat : Nat))).heap[g]? = w2.heap[g]? := by
            rw [heap_setCell_other _ _ _ _ (by simp; omega)]
            exact HBG.out
          have BS := GB.out.setCell (p := ⟨w.heap.size + 1, k, none⟩) (by simp) (.int .u8 (y.toNat : Nat))
          have LS : g < (wr.setCell ⟨w.heap.size + 1, k, none⟩ (.int .u8 (y.toNat : Nat))).heap.size := by simpa using hgl
          have HS : Hid (∀ o : Obj, IsB ((wr.setCell ⟨w.heap.size + 1, k, none⟩ (.int .u8 (y.toNat : Nat))).alloc o) (w.heap.size + 1) 5 .u8 t.size (fun j => ((fillL t (dF d) (k + 1) j : Nat) : Int)) ∧ IsR ((wr.setCell ⟨w.heap.size + 1, k, none⟩ (.int .u8 (y.toNat : Nat))).alloc o) w.heap.size ∧ ((wr.setCell ⟨w.heap.size + 1, k, none⟩ (.int .u8 (y.toNat : Nat))).alloc o).heap[g]? = w2.heap[g]? ∧ Below w.heap.size w ((wr.setCell ⟨w.heap.size + 1, k, none⟩ (.int .u8 (y.toNat : Nat))).alloc o)) := by
            intro o
            generalize wr.setCell ⟨w.heap.size + 1, k, none⟩ (.int .u8 (y.toNat : Nat)) = W at TS RS GS BS LS ⊢
            have ba : Below W.heap.size W (W.alloc o) := (Below.refl _ _).alloc (Nat.le_refl _) _
            have h1 := TS.lt
            exact ⟨TS.below ba h1, (ba.block _ (by omega)).trans RS, (ba.block _ LS).trans GS, BS.trans (ba.mono BS.size)⟩
          clear TS RS GS BS LS
          by_cases hx0 : x = 0
          · subst hx0
            have HM := hideO (HA.out.1 rfl)
            go_wp2_with fail
            go_roundw
            case rel => exact ⟨k + 1, by go_num, by omega, by rw [HM.out], HS.out _⟩
            case measure => simp [intOf]; omega
          · have HM := hideO (HA.out.2 hx0)
            have hxz : ((x : Int) == 0) = false := by simpa using hx0
            go_wp2_with fail
            go_roundw
            case rel => exact ⟨k + 1, by go_num, by omega, by rw [HM.out], HS.out _⟩
            case measure => simp [intOf]; omega
        · obtain rfl : k = t.size := by omega
          have hcv := htxt.str (P := Tryz.prog) (src := 22) (dst := 9) t.size t.size (Nat.le_refl _) (fun j _ => fillL_lt _ _ _ j) Tryz.underlying22 Tryz.underlying5 Tryz.underlying9
          rw [fillL_all] at hcv
          obtain ⟨c0, c1, c2, f0⟩ := hres.cells
          have HV : Hid (sOut (bwtT t) (bwtA t) (bwtC t) = sOut (strF t.size (fun j => lastB t (dF d j))) (atK (dF d) t.size) 0) := by
            unfold Hid
            rw [HE.out.1, HE.out.2.1, HE.out.2.2]
          obtain ⟨q, hq⟩ : ∃ q, q = strF t.size (fun j => lastB t (dF d j)) := ⟨_, rfl⟩
          obtain ⟨m, hm⟩ : ∃ m, m = atK (dF d) t.size := ⟨_, rfl⟩
          rw [← hq] at hcv HV
          rw [← hm] at HV ⊢
          clear htxt hres hbg hq hm
          go_wp2_with fail
          refine bodyPost_ret (v := sOut q m 0) (by simp [results, sOut, Tryz.results105, go_sem, c0, c1, c2]) rfl ⟨by rw [HV.out], ?_⟩
          exact ((GB.out.setCell (Nat.le_refl _) _).setCell (Nat.le_refl _) _).setCell (Nat.le_refl _) _
end Go.Proofs.YtjdlgpnhkfdehaaGreatDoor.So


/- What the program's FrontOf answers. -/
namespace Go.Proofs.YtjdlgpnhkfdehaaGreatDoor.Fr
open Go.RowKit
open Go.Proofs.YtjdlgpnhkfdehaaGreatDoor.Sh (IsB rowF upd made_row bt bt_get)
open Go.Proofs.YtjdlgpnhkfdehaaGreatDoor.Ze (hideZ)
open Go.Proofs.YtjdlgpnhkfdehaaGreatDoor.St (Aft)
open Go.Proofs.YtjdlgpnhkfdehaaGreatDoor.In (Ints IsI OwnI made_ints)
open Go.Proofs.YtjdlgpnhkfdehaaGreatDoor.In.Tryz (infoI2)
def padI (xs : List Int) (n : Nat) : List Int := xs ++ List.replicate (n - xs.length) 0
theorem padI_len (xs : List Int) (n : Nat) (h : xs.length ≤ n) : (padI xs n).length = n := by simp [padI]; omega
theorem padI_next (xs : List Int) (n : Nat) (v : Int) (h : xs.length < n) : (padI xs n).set xs.length v = padI (xs ++ [v]) n := by
  unfold padI
  rw [List.set_append_right _ _ (Nat.le_refl _), Nat.sub_self, List.append_assoc]
  congr 1
  obtain ⟨m, hm⟩ : ∃ m, n - xs.length = m + 1 := ⟨n - xs.length - 1, by omega⟩
  rw [hm, List.replicate_succ, List.length_append, List.length_singleton, show n - (xs.length + 1) = m by omega]
  rfl
theorem padI_all (xs : List Int) : padI xs xs.length = xs := by simp [padI]
theorem list_get (t : ByteArray) (k : Nat) (h : k < t.size) : ∃ h' : k < t.data.toList.length, t.data.toList[k] = t[k] := ⟨by simpa using h, by simp [ByteArray.getElem_eq_getElem_data]⟩
theorem row_own {w : World} {g base : Nat} {l : List Int} (h : IsI w g 2 l) (hb : base ≤ g) (hm : l.length ≤ maxLen) : OwnI w base (.slice (some ⟨g, 0, none⟩) l.length l.length) l :=
  ⟨by simp, .inr ⟨g, l.length, _, rfl, hb, h, Nat.le_refl _, hm, by simp [In.irow], by rw [List.take_of_length_le (by simp [In.irow])]; simp [In.irow]⟩⟩
theorem below_drewN {B : Nat} {w w' : World} (h : Below B w w') (n : Nat) : Below B w (w'.drewN n) := ⟨h.os, h.tape, h.output, h.size, h.block⟩
theorem isI_of_heap {w w' : World} {g t : Nat} {l : List Int} (h : IsI w g t l) (e : w'.heap[g]? = w.heap[g]?) : IsI w' g t l := by
  unfold IsI
  rw [e]
  exact h
set_option maxRecDepth 100000 in
set_option maxHeartbeats 1000000 in
theorem frontOf_impl (t : ByteArray) (w : World) (hn : t.size ≤ 1048576) :
    Calls Tryz.prog 107 #[.string t] w fun e w' => ∃ v, e = .returned v ∧ OwnI w' w.heap.size v (frontR t.data.toList) ∧ Below w.heap.size w w' := by
  obtain ⟨i0, hi0, hz0, hz1, hz2⟩ := info_parts infoI2
  have hdl : t.data.toList.length = t.size := by simp
  by_cases hlong : 400 < t.size
  · rw [frontR_no (by omega)]
    clear hdl
    go_enter Tryz.func107, Tryz.ntmps107
    go_wp2_with fail
    go_step3
    go_wp2_with fail
    try rw [Exit.noGoto_ret]
    go_ret
    exact ⟨_, rfl, OwnI.nil _ _, Below.refl _ _⟩
  · rw [frontR_yes (by omega)]
    have HDL := hideZ hdl
    clear hdl
    have hlong' : ¬ (400 : Int) < (t.size : Int) := by omega
    go_enter Tryz.func107, Tryz.ntmps107
    go_wp2_with fail
    go_step3
    go_wp2_with fail
    refine (rising_impl w).mono ?_
    rintro e w1 ⟨rfl, hb1⟩
    have HB1 := hideZ hb1
    have z1 := hb1.size
    clear hb1
    obtain ⟨n, hln⟩ : ∃ n, n = t.size := ⟨_, rfl⟩
    go_wp2_with (first | ((with_reducible refine wpList_alloc_row Tryz.zeroA166 ?_); intro w2 hb2 hbel2 hs2 ho2; have G2 := hideZ hb2; have HB2 := hideZ (HB1.out.trans (hbel2 _ z1)); clear hb2 hbel2 ho2) | ((with_reducible refine Sh.wpList_store_row' G2.out Tryz.sizeA166 row0 ?_ ?_ ?_); (· rfl); (· rfl); intro w3 hb3 hbel3 hs3 ho3; have G3 := hideZ hb3; have HB3 := hideZ (HB2.out.trans (hbel3 _ z1)); clear hb3 hbel3 ho3) | (at_make; refine wpList_make_full _ rfl (.tmp 12) (.tmp 12) 97 rfl w3.heap.size 2 i0 (.int .i64 0) 1 Tryz.underlying97 hi0 hz0 hz1 .i64 .i64 _ _ t.size rfl rfl (by simp) (by simp) (by rw [hz2]; omega) (by unfold maxLen; omega) (Nat.le_refl _) ?_; intro w4 hown4 hgrow4; have HR4 := hideZ (made_ints hown4); have hb4 := (Below.refl w3.heap.size w3).grown hgrow4 (Nat.le_refl _) (by simp); have G4 := hideZ (G3.out.below hb4 (by omega)); have HB4 := hideZ (HB3.out.trans (hb4.mono (by omega))); clear hown4 hgrow4 hb4))
    go_step3
    go_wp2_with fail
    clear hln n
    obtain ⟨g1, hg1⟩ : ∃ g1, g1 = w1.heap.size := ⟨_, rfl⟩
    have e3 : w3.heap.size = w1.heap.size + 1 := by omega
    rw [e3] at HR4
    have hgw : w.heap.size ≤ g1 := by omega
    rw [← hg1] at G4 HR4 ⊢
    obtain ⟨g2, hg2⟩ : ∃ g2, g2 = g1 + 1 := ⟨_, rfl⟩
    have hg12 : g1 < g2 := by omega
    rw [← hg2] at HR4 ⊢
    clear e3 hg1 hg2 hs2 hs3 z1
    obtain ⟨l, hl⟩ : ∃ l, l = t.data.toList := ⟨_, rfl⟩
    rw [← hl] at HDL
    have HL := hideZ hl
    clear hl
    go_loopw [16] (fun i wr => ∃ k : Nat, i = .int .i64 k ∧ k ≤ t.size ∧ IsB wr g1 166 .u8 256 (fst' (l.take k)).2 ∧ IsI wr g2 2 (padI (fst' (l.take k)).1 t.size) ∧ Below w.heap.size w wr) (fun i _ => t.size - (intOf i).toNat)
    case atStart => exact ⟨0, rfl, Nat.zero_le _, G4.out, by simpa [padI, fst'] using HR4.out, HB4.out⟩
    case round =>
      obtain ⟨k, rfl, hk, hrow, hpl, hbel⟩ := hrel
      obtain ⟨hfull, hlen⟩ := fst_full l k (by have := HDL.out; omega)
      have R1 := hideZ hrow
      have T1 := hideZ hpl
      have GB := hideZ hbel
      clear hbel
      by_cases hlt : k < t.size
      · obtain ⟨hkl', hget⟩ := list_get t k hlt
        have hkl : k < l.length := by rw [HDL.out]; exact hlt
        have hge : l[k] = t[k] := by
          have := HL.out
          subst this
          exact hget
        have HM := hideZ (fst_more hkl)
        rw [hge] at HM
        obtain ⟨c, hc⟩ : ∃ c : UInt8, t[k] = c := ⟨_, rfl⟩
        rw [hc] at HM
        obtain ⟨f, hf⟩ : ∃ f, f = (fst' (l.take k)).2 := ⟨_, rfl⟩
        obtain ⟨ps, hps⟩ : ∃ ps, ps = (fst' (l.take k)).1 := ⟨_, rfl⟩
        rw [← hf] at R1 HM hfull
        rw [← hps] at T1 HM hlen
        have hlk := look_some hfull (c := c.toNat) (UInt8.toNat_lt _)
        obtain ⟨q, hq⟩ : ∃ q, q = look f c.toNat := ⟨_, rfl⟩
        rw [← hq] at hlk HM
        have hq256 := hlk.1
        have HLK := hideZ hlk.2
        have HLE := hideZ hlen
        have HFU := hideZ hfull
        clear hget hge hf hps hrow hpl hfull hlen hlk hq
        go_wp2_with fail
        go_loopw [19] (fun i wr2 => ∃ p : Nat, i = .int .i64 p ∧ p ≤ q ∧ IsB wr2 g1 166 .u8 256 f ∧ IsI wr2 g2 2 (padI ps t.size) ∧ Below w.heap.size w wr2) (fun i _ => q - (intOf i).toNat)
        case atStart => exact ⟨0, rfl, Nat.zero_le _, R1.out, T1.out, GB.out⟩
        case round =>
          obtain ⟨p, rfl, hp, hrow2, hpl2, hbel2⟩ := hrel
          have R2 := hideZ hrow2
          have T2 := hideZ hpl2
          have GB2 := hideZ hbel2
          have c1 := hrow2.cell (j := p) (by omega)
          have hbnd := HFU.out.2 p (by omega)
          obtain ⟨y, hy⟩ : ∃ y, y = f p := ⟨_, rfl⟩
          rw [← hy] at c1 hbnd
          have HY := hideZ hy
          clear hrow2 hpl2 hbel2 hy
          by_cases hpq : p = q
          · have hyc : (y == ((c.toNat : Nat) : Int)) = true := beq_iff_eq.2 (by rw [HY.out, hpq]; exact HLK.out.1)
            have hq1 : q < 256 := hq256
            have c2 := T2.out.cell (j := k) (by rw [padI_len _ _ (by have := HLE.out; omega)]; exact hlt)
            have f2 := T2.out.frozen k
            have HT3 : Hid (∀ nq, IsI ((wr.drewN nq).setCell ⟨g2, k, none⟩ (.int .i64 p)) g2 2 (padI (ps ++ [(p : Int)]) t.size)) := fun nq => by
              have h1 : IsI (wr.drewN nq) g2 2 (padI ps t.size) := T2.out
              have h2 := h1.set k (p : Int)
              have h3 := padI_next ps t.size (p : Int) (by have := HLE.out; omega)
              rw [HLE.out] at h3
              rw [h3] at h2
              exact h2
            have HR3 : Hid (∀ nq, IsB ((wr.drewN nq).setCell ⟨g2, k, none⟩ (.int .i64 p)) g1 166 .u8 256 f) := fun nq => by
              have h1 : IsB (wr.drewN nq) g1 166 .u8 256 f := R2.out
              exact h1.set_other _ _ (by simp; omega)
            have HBr := hideZ (fun nq => bring_impl g1 p 166 f _ (HR3.out nq) (by omega))
            have HB3' : Hid (∀ nq, Below w.heap.size w ((wr.drewN nq).setCell ⟨g2, k, none⟩ (.int .i64 p))) := fun nq => (below_drewN GB2.out nq).setCell (p := ⟨g2, k, none⟩) (by simp; omega) _
            rw [← hpq] at HM
            clear hpq
            go_wp2_with fail
            go_quiet (fail)
            all_goals (try go_wp2_with fail)
            refine (HBr.out _).mono ?_
            rintro e w5 ⟨rfl, hb5, ha5⟩
            have G5 := hideZ hb5
            have T5 := hideZ (isI_of_heap (HT3.out _) (ha5.2.2.2.2 g2 (HT3.out _).lt (by omega)))
            have B5 := hideZ (Aft.below (HB3'.out _) ha5 (by omega) (by have := (HT3.out nq).lt; omega))
            clear hb5 ha5
            go_wp2_with fail
            go_roundw
            case rel => exact ⟨k + 1, by go_num, by omega, by rw [HM.out]; exact G5.out, by rw [HM.out]; exact T5.out, B5.out⟩
            case measure => simp [intOf]; omega
          · have hyc : (y == ((c.toNat : Nat) : Int)) = false := beq_eq_false_iff_ne.2 (by rw [HY.out]; exact HLK.out.2 p (by omega))
            go_wp2_with fail
            go_quiet (fail)
            all_goals (try go_wp2_with fail)
            go_roundw
            case rel => exact ⟨p + 1, by go_num, by omega, R2.out, T2.out, below_drewN GB2.out _⟩
            case measure => simp [intOf]; omega
      · obtain rfl : k = t.size := by omega
        have HT : Hid (l.take t.size = l) := by
          unfold Hid
          rw [← HDL.out, List.take_length]
        rw [HT.out] at hpl hlen
        have hpa : padI (fst' l).1 t.size = (fst' l).1 := by
          rw [← hlen]
          exact padI_all _
        rw [hpa] at hpl
        have HV := hideZ (row_own (base := w.heap.size) hpl (by omega) (by unfold maxLen; omega))
        rw [hlen] at HV
        have HLL := HL.out
        rw [HLL] at HV
        clear hrow hpl hfull hlen hpa HLL
        go_wp2_with fail
        try rw [Exit.noGoto_ret]
        go_ret
        exact ⟨_, rfl, HV.out, GB.out⟩
end Go.Proofs.YtjdlgpnhkfdehaaGreatDoor.Fr


/- The walks of the specification's helpers on lengths, of both Whole, and of the law. -/
namespace Go.Proofs.YtjdlgpnhkfdehaaGreatDoor.Bi
open Go.RowKit
open Go.Proofs.YtjdlgpnhkfdehaaGreatDoor.In (Ints)
def sumR (l : List Int) : Int × Int := if right l = true then ((csum l : Nat), (above l : Nat)) else (-1, 0)
theorem sumR_yes {l : List Int} (h : right l = true) : sumR l = (((csum l : Nat) : Int), ((above l : Nat) : Int)) := if_pos h
theorem sumR_no {l : List Int} (h : right l = false) : sumR l = (-1, 0) := if_neg (by rw [h]; decide)
theorem good12 {l : List Int} {k : Nat} (hk : l.length ≤ k) (h : ∀ j (hj : j < l.length), j < k → 0 ≤ l[j] ∧ l[j] ≤ 12) : ∀ x ∈ l, 0 ≤ x ∧ x ≤ 12 := by
  intro x hx
  obtain ⟨j, hj, rfl⟩ := List.getElem_of_mem hx
  exact h j hj (by omega)
theorem good_more {l : List Int} {k : Nat} (hk : k < l.length) (h : ∀ j (hj : j < l.length), j < k → 0 ≤ l[j] ∧ l[j] ≤ 12) (h2 : 0 ≤ l[k] ∧ l[k] ≤ 12) : ∀ j (hj : j < l.length), j < k + 1 → 0 ≤ l[j] ∧ l[j] ≤ 12 := by
  intro j hj hjk
  by_cases e : j = k
  · subst e; exact h2
  · exact h j hj (by omega)
set_option maxHeartbeats 2000000 in
theorem sum_spec (l : List Int) (a : Option Addr) (cap B : Nat) (w : World) (hi : Ints w B a l) (hn : l.length ≤ 400) :
    Calls Tryz.prog 222 #[.slice a l.length cap] w fun e w' => e = .returned (.tuple #[.int .i64 (sumR l).1, .int .i64 (sumR l).2]) ∧ w' = w := by
  have HS := hideB hi
  clear hi
  obtain ⟨n, hln⟩ : ∃ n, n = l.length := ⟨_, rfl⟩
  have HLN := hideB hln
  rw [← hln] at hn ⊢
  clear hln
  have HP12 := hideB (pow_any 12 w (by decide))
  obtain ⟨r, hr⟩ : ∃ r, r = sumR l := ⟨_, rfl⟩
  rw [← hr]
  have HR := hideB hr
  clear hr
  go_enter Tryz.func222, Tryz.ntmps222
  go_wp2_with fail
  go_loopw [6, 4, 5] (fun i v u wr => ∃ k s c : Nat, i = .int .i64 k ∧ v = .int .i64 s ∧ u = .int .i64 c ∧ k ≤ n ∧ s = csum (l.take k) ∧ c = above (l.take k) ∧ s ≤ 4096 * k ∧ c ≤ k ∧ (∀ j (hj : j < l.length), j < k → 0 ≤ l[j] ∧ l[j] ≤ 12) ∧ wr = w) (fun i _ _ _ => n - (intOf i).toNat)
  case atStart => exact ⟨0, 0, 0, rfl, rfl, rfl, Nat.zero_le _, by simp [csum], by simp [above], by omega, by omega, fun j hj h0 => absurd h0 (Nat.not_lt_zero j), rfl⟩
  case round =>
    obtain ⟨k, s, c, rfl, rfl, rfl, hk, hs, hc', hsb, hcb, hall, hw⟩ := hrel
    subst hw
    have HC := hideB hs
    have HD := hideB hc'
    have HA := hideB hall
    clear hs hc' hall
    by_cases hlt : k < n
    · have hkl : k < l.length := by rw [← HLN.out]; exact hlt
      obtain ⟨b, off, rfl, hb, hc⟩ := HS.out.some (by omega)
      have ci := hc k hkl
      have HM := hideB (csum_more hkl)
      have HM' := hideB (above_more hkl)
      have HGM := hideB (good_more hkl HA.out)
      obtain ⟨x, hx⟩ : ∃ x, x = l[k] := ⟨_, rfl⟩
      have HX := hideB hx
      rw [← hx] at ci HM HM' HGM
      clear hc hx
      by_cases h0 : 0 ≤ x ∧ x ≤ 12
      · have HI := hideB (is_yes x 0 12 wr h0.1 h0.2)
        by_cases hpos : 0 < x
        · obtain ⟨m, rfl, hm1, hm2, hp⟩ := part_pos x hpos h0.2
          obtain ⟨d, hd⟩ : ∃ d : Nat, d = 12 - m := ⟨_, rfl⟩
          have hdi : (12 : Int) - m = d := by omega
          have HQ := hideB (pow_any d wr (by omega))
          rw [← hd] at hp
          have hp2 : 2 ^ d ≤ 4096 := by have := part_le (m : Int); rw [hp] at this; exact this
          have HP := hideB hp
          have HM2 : Hid (above (l.take (k + 1)) = c + 1) := by
            unfold Hid
            rw [HM'.out, if_pos hpos, HD.out]
          clear hp hd
          generalize 2 ^ d = pm at hp2 HP HQ
          go_wp2_with fail
          refine HI.out.mono ?_
          rintro e w' ⟨rfl, hw⟩
          subst w'
          go_wp2_with fail
          refine HQ.out.mono ?_
          rintro e w' ⟨rfl, hw⟩
          subst w'
          go_wp2_with fail
          go_roundw
          case rel => exact ⟨k + 1, s + pm, c + 1, by go_num, by go_num, by go_num, by omega, by rw [HM.out, HP.out, HC.out], HM2.out.symm, by omega, by omega, HGM.out h0, trivial⟩
          case measure => simp [intOf]; omega
        · have HP := hideB (part_none x hpos)
          have HM2 : Hid (above (l.take (k + 1)) = c) := by
            unfold Hid
            rw [HM'.out, if_neg hpos, HD.out]
            rfl
          go_wp2_with fail
          refine HI.out.mono ?_
          rintro e w' ⟨rfl, hw⟩
          subst w'
          go_wp2_with fail
          go_roundw
          case rel => exact ⟨k + 1, s, c, by go_num, rfl, rfl, by omega, by rw [HM.out, HP.out, HC.out]; rfl, HM2.out.symm, by omega, by omega, HGM.out h0, trivial⟩
          case measure => simp [intOf]; omega
      · have HI := hideB (is_no x 0 12 wr (by omega))
        have HE : Hid (r = (-1, 0)) := by
          unfold Hid
          rw [HR.out]
          exact sumR_no (right_no (Or.inl (within_bad (m := 12) hkl (by rw [← HX.out]; omega))))
        clear h0
        go_wp2_with fail
        refine HI.out.mono ?_
        rintro e w' ⟨rfl, hw⟩
        subst w'
        go_wp2_with fail
        go_ret2
        exact ⟨by rw [HE.out]; rfl, rfl⟩
    · have HS2 : Hid (s = csum l) := by
        unfold Hid
        rw [HC.out, List.take_of_length_le (by have := HLN.out; omega)]
      have HC2 : Hid (c = above l) := by
        unfold Hid
        rw [HD.out, List.take_of_length_le (by have := HLN.out; omega)]
      have HG := hideB (good12 (by have := HLN.out; omega) HA.out)
      by_cases hlong : 257 < n
      · have HE : Hid (r = (-1, 0)) := by
          unfold Hid
          rw [HR.out]
          exact sumR_no (right_no (Or.inl (within_long (by have := HLN.out; omega))))
        have hl' : (257 : Int) < n := by omega
        go_wp2_with fail
        go_ret2
        exact ⟨by rw [HE.out]; rfl, rfl⟩
      · have hl' : decide ((257 : Int) < n) = false := decide_eq_false (by omega)
        have HW : Hid (within l 12 = true) := within_of (by have := HLN.out; omega) HG.out
        by_cases hbig : 4096 < s
        · have HE : Hid (r = (-1, 0)) := by
            unfold Hid
            rw [HR.out]
            exact sumR_no (right_no (Or.inr (by rw [← HS2.out]; omega)))
          go_wp2_with fail
          refine HP12.out.mono ?_
          rintro e w' ⟨rfl, hw⟩
          subst w'
          go_wp2_with fail
          go_ret2
          exact ⟨by rw [HE.out]; rfl, rfl⟩
        · have HE : Hid (r = ((s : Int), (c : Int))) := by
            unfold Hid
            rw [HR.out, HS2.out, HC2.out]
            exact sumR_yes (right_of HW.out (by rw [← HS2.out]; omega))
          have hb' : decide ((4096 : Int) < s) = false := decide_eq_false (by omega)
          go_wp2_with fail
          refine HP12.out.mono ?_
          rintro e w' ⟨rfl, hw⟩
          subst w'
          go_wp2_with fail
          go_ret2
          exact ⟨by rw [HE.out]; rfl, rfl⟩
theorem whole_yes1 {l : List Int} (h : right l = true) (h1 : csum l = 4096) : whole l = true := by unfold whole; rw [h, decide_eq_true h1]; rfl
theorem whole_yes2 {l : List Int} (h : right l = true) (h1 : above l = 1) (h2 : csum l = 2048) : whole l = true := by unfold whole; rw [h, decide_eq_true h1, decide_eq_true h2]; simp
theorem whole_no1 {l : List Int} (h1 : ¬ csum l = 4096) (h2 : ¬ above l = 1) : whole l = false := by unfold whole; rw [decide_eq_false h1, decide_eq_false h2]; simp
theorem whole_no2 {l : List Int} (h1 : ¬ csum l = 4096) (h2 : ¬ csum l = 2048) : whole l = false := by unfold whole; rw [decide_eq_false h1, decide_eq_false h2]; simp
set_option maxHeartbeats 2000000 in
theorem l04Whole_any (l : List Int) (a : Option Addr) (cap B : Nat) (w : World) (hi : Ints w B a l) (hn : l.length ≤ 400) :
    Calls Tryz.prog 176 #[.slice a l.length cap] w fun e w' => e = .returned (.bool (whole l)) ∧ w' = w := by
  have HS := hideB (sum_spec l a cap B w hi hn)
  have HP12 := hideB (pow_any 12 w (by decide))
  have HP11 := hideB (pow_any 11 w (by decide))
  clear hi
  cases hr : right l with
  | false =>
    have HE := hideB (whole_no hr)
    rw [sumR_no hr] at HS
    generalize l.length = n at HS hn ⊢
    generalize whole l = wl at HE ⊢
    go_enter Tryz.func176, Tryz.ntmps176
    go_wp2_with fail
    refine HS.out.mono ?_
    rintro e w' ⟨rfl, hw⟩
    subst w'
    go_wp2_with fail
    refine HP12.out.mono ?_
    rintro e w' ⟨rfl, hw⟩
    subst w'
    go_wp2_with fail
    go_ret
    exact ⟨ret_boolB HE.out.symm, rfl⟩
  | true =>
    rw [sumR_yes hr] at HS
    by_cases h1 : csum l = 4096
    · have HE := hideB (whole_yes1 hr h1)
      rw [h1] at HS
      generalize l.length = n at HS hn ⊢
      generalize whole l = wl at HE ⊢
      generalize above l = ab at HS
      clear h1
      go_enter Tryz.func176, Tryz.ntmps176
      go_wp2_with fail
      refine HS.out.mono ?_
      rintro e w' ⟨rfl, hw⟩
      subst w'
      go_wp2_with fail
      refine HP12.out.mono ?_
      rintro e w' ⟨rfl, hw⟩
      subst w'
      go_wp2_with fail
      go_ret
      exact ⟨ret_boolB HE.out.symm, rfl⟩
    · by_cases h2 : above l = 1
      · by_cases h3 : csum l = 2048
        · have HE := hideB (whole_yes2 hr h2 h3)
          rw [h3, h2] at HS
          generalize l.length = n at HS hn ⊢
          generalize whole l = wl at HE ⊢
          clear h1 h2 h3
          go_enter Tryz.func176, Tryz.ntmps176
          go_wp2_with fail
          refine HS.out.mono ?_
          rintro e w' ⟨rfl, hw⟩
          subst w'
          go_wp2_with fail
          refine HP12.out.mono ?_
          rintro e w' ⟨rfl, hw⟩
          subst w'
          go_wp2_with fail
          refine HP11.out.mono ?_
          rintro e w' ⟨rfl, hw⟩
          subst w'
          go_wp2_with fail
          go_ret
          exact ⟨ret_boolB HE.out.symm, rfl⟩
        · have HE := hideB (whole_no2 h1 h3)
          rw [h2] at HS
          have g1 : (((csum l : Nat) : Int) == 4096) = false := beq_eq_false_iff_ne.2 (by omega)
          have g3 : (((csum l : Nat) : Int) == 2048) = false := beq_eq_false_iff_ne.2 (by omega)
          generalize l.length = n at HS hn ⊢
          generalize whole l = wl at HE ⊢
          generalize csum l = cs at HS g1 g3
          clear h1 h2 h3
          go_enter Tryz.func176, Tryz.ntmps176
          go_wp2_with fail
          refine HS.out.mono ?_
          rintro e w' ⟨rfl, hw⟩
          subst w'
          go_wp2_with fail
          refine HP12.out.mono ?_
          rintro e w' ⟨rfl, hw⟩
          subst w'
          go_wp2_with fail
          refine HP11.out.mono ?_
          rintro e w' ⟨rfl, hw⟩
          subst w'
          go_wp2_with fail
          go_ret
          exact ⟨ret_boolB HE.out.symm, rfl⟩
      · have HE := hideB (whole_no1 h1 h2)
        have g1 : (((csum l : Nat) : Int) == 4096) = false := beq_eq_false_iff_ne.2 (by omega)
        have g2 : (((above l : Nat) : Int) == 1) = false := beq_eq_false_iff_ne.2 (by omega)
        generalize l.length = n at HS hn ⊢
        generalize whole l = wl at HE ⊢
        generalize csum l = cs at HS g1
        generalize above l = ab at HS g2
        clear h1 h2
        go_enter Tryz.func176, Tryz.ntmps176
        go_wp2_with fail
        refine HS.out.mono ?_
        rintro e w' ⟨rfl, hw⟩
        subst w'
        go_wp2_with fail
        refine HP12.out.mono ?_
        rintro e w' ⟨rfl, hw⟩
        subst w'
        go_wp2_with fail
        go_ret
        exact ⟨ret_boolB HE.out.symm, rfl⟩
set_option maxHeartbeats 2000000 in
theorem whole_impl (l : List Int) (a : Option Addr) (cap B : Nat) (w : World) (hi : Ints w B a l) (hn : l.length ≤ 1048576) :
    Calls Tryz.prog 163 #[.slice a l.length cap] w fun e w' => e = .returned (.bool (whole l)) ∧ w' = w := by
  have HR := hideB (right_impl l a cap B w hi hn)
  have HC := hideB (count_impl l a cap B w hi hn)
  have HK := hideB (contains_impl l 1 a cap B w hi hn)
  cases hr : right l with
  | false =>
    have HE := hideB (whole_no hr)
    rw [hr] at HR
    clear hi
    generalize l.length = n at HR hn ⊢
    generalize whole l = wl at HE ⊢
    go_enter Tryz.func163, Tryz.ntmps163
    go_wp2_with fail
    refine HR.out.mono ?_
    rintro e w' ⟨rfl, hw⟩
    subst w'
    go_wp2_with fail
    go_ret
    exact ⟨ret_boolB HE.out.symm, rfl⟩
  | true =>
    have HS := hideB (sum_impl l a cap B w hi (right_yes hr).1)
    rw [hr] at HR
    clear hi
    by_cases h2 : above l = 1
    · rw [alone l h2] at HK
      rw [h2] at HC
      by_cases h3 : csum l = 2048
      · have HE := hideB (whole_yes2 hr h2 h3)
        rw [decide_eq_true h3] at HK
        generalize l.length = n at HR HC HK HS hn ⊢
        generalize whole l = wl at HE ⊢
        clear h2 h3 hr HS
        go_enter Tryz.func163, Tryz.ntmps163
        go_wp2_with fail
        refine HR.out.mono ?_
        rintro e w' ⟨rfl, hw⟩
        subst w'
        go_wp2_with fail
        refine HC.out.mono ?_
        rintro e w' ⟨rfl, hw⟩
        subst w'
        go_wp2_with fail
        refine HK.out.mono ?_
        rintro e w' ⟨rfl, hw⟩
        subst w'
        go_wp2_with fail
        go_ret
        exact ⟨ret_boolB HE.out.symm, rfl⟩
      · have HE : Hid (whole l = decide (csum l = 4096)) := by
          unfold Hid
          by_cases h4 : csum l = 4096
          · rw [whole_yes1 hr h4, decide_eq_true h4]
          · rw [whole_no2 h4 h3, decide_eq_false h4]
        rw [decide_eq_false h3] at HK
        have HD : Hid (((((csum l : Nat) : Int)) == 4096) = decide (csum l = 4096)) := by
          unfold Hid
          rw [Bool.eq_iff_iff]
          simp
          omega
        generalize decide (csum l = 4096) = dc at HE HD
        generalize l.length = n at HR HC HK HS hn ⊢
        generalize whole l = wl at HE ⊢
        generalize csum l = cs at HS HD
        clear h2 h3 hr
        go_enter Tryz.func163, Tryz.ntmps163
        go_wp2_with fail
        refine HR.out.mono ?_
        rintro e w' ⟨rfl, hw⟩
        subst w'
        go_wp2_with fail
        refine HC.out.mono ?_
        rintro e w' ⟨rfl, hw⟩
        subst w'
        go_wp2_with fail
        refine HK.out.mono ?_
        rintro e w' ⟨rfl, hw⟩
        subst w'
        go_wp2_with fail
        refine HS.out.mono ?_
        rintro e w' ⟨rfl, hw⟩
        subst w'
        go_wp2_with fail
        go_ret
        exact ⟨ret_boolB (HD.out.trans HE.out.symm), rfl⟩
    · have HE : Hid (whole l = decide (csum l = 4096)) := by
        unfold Hid
        by_cases h4 : csum l = 4096
        · rw [whole_yes1 hr h4, decide_eq_true h4]
        · rw [whole_no1 h4 h2, decide_eq_false h4]
      have g2 : (((above l : Nat) : Int) == 1) = false := beq_eq_false_iff_ne.2 (by omega)
      have HD : Hid (((((csum l : Nat) : Int)) == 4096) = decide (csum l = 4096)) := by
        unfold Hid
        rw [Bool.eq_iff_iff]
        simp
        omega
      generalize decide (csum l = 4096) = dc at HE HD
      generalize l.length = n at HR HC HK HS hn ⊢
      generalize whole l = wl at HE ⊢
      generalize csum l = cs at HS HD
      generalize above l = ab at HC g2
      clear h2 hr HK
      go_enter Tryz.func163, Tryz.ntmps163
      go_wp2_with fail
      refine HR.out.mono ?_
      rintro e w' ⟨rfl, hw⟩
      subst w'
      go_wp2_with fail
      refine HC.out.mono ?_
      rintro e w' ⟨rfl, hw⟩
      subst w'
      go_wp2_with fail
      refine HS.out.mono ?_
      rintro e w' ⟨rfl, hw⟩
      subst w'
      go_wp2_with fail
      go_ret
      exact ⟨ret_boolB (HD.out.trans HE.out.symm), rfl⟩
end Go.Proofs.YtjdlgpnhkfdehaaGreatDoor.Bi

