/- Texts put together: UnStep, UnOpen, UnsealSpec, FrontO, PkImpl, PutSpec, PackSpec. -/
import Derived.Test.YtjdlgpnhkfdehaaGreatDoorFo43
import Derived.Test.YtjdlgpnhkfdehaaGreatDoorFo30
import Derived.Test.YtjdlgpnhkfdehaaGreatDoorFo44
import Derived.Test.YtjdlgpnhkfdehaaGreatDoorFo32
import Derived.Test.YtjdlgpnhkfdehaaGreatDoorFo37
import Derived.Test.YtjdlgpnhkfdehaaGreatDoorFo42
import Derived.Test.YtjdlgpnhkfdehaaGreatDoorFo9
import Derived.WalkMore
import Derived.Scope
import Derived.Test.YtjdlgpnhkfdehaaGreatDoorFo23
import Derived.Test.YtjdlgpnhkfdehaaGreatDoorFo35
import Derived.Test.YtjdlgpnhkfdehaaGreatDoorFo31
import Derived.Deep.RegionHeld3
import Derived.Deep.CutRange
/- What the specification's l06Open hands back: of a block's short form the block. -/
namespace Go.Proofs.YtjdlgpnhkfdehaaGreatDoor.Up
open Go.Proofs.YtjdlgpnhkfdehaaGreatDoor.Pk
open Go.RowKit
open Go.Proofs.YtjdlgpnhkfdehaaGreatDoor.Gn (rd)
open Go.Proofs.YtjdlgpnhkfdehaaGreatDoor.Hf (up up_length up_set)
open Go.Proofs.YtjdlgpnhkfdehaaGreatDoor.Bi (above openR getR open_spec)
open Go.Proofs.YtjdlgpnhkfdehaaGreatDoor.So (bwtA unR unR_case unbwt_spec tOut)
open Go.Proofs.YtjdlgpnhkfdehaaGreatDoor.Fr (fbackR frontBack_spec)
open Go.Proofs.YtjdlgpnhkfdehaaGreatDoor.Ze (backR zerosBack_spec backR_len)
open Go.Proofs.YtjdlgpnhkfdehaaGreatDoor.In (Ints IsI made_ints)
open Go.Proofs.YtjdlgpnhkfdehaaGreatDoor.Dr (Aft)
def Rd (t : ByteArray) (k : Nat) (at_ : Int) (bad : Bool) : Prop := (0 ≤ at_ ∧ at_ ≤ t.size) ∧ ∀ b, Good t b → bad = false ∧ at_ = (posK b k : Int)
theorem rd_end (t : ByteArray) (a : Int) : (rd t a).2.1 ≤ t.size := by
 unfold rd
 split
 ·exact Nat.zero_le _
 ·split
  ·exact Nat.zero_le _
  ·exact Gn.run_place t _ _ _ _
theorem rd_step {t : ByteArray} {k : Nat} {at_ most : Int} {bad : Bool} (h : Rd t k at_ bad) (hk : ∀ b, Good t b → ∃ v, (numsAll b)[k]? = some v ∧ v ≤ most) :
  (okN t at_ bad most → Rd t (k + 1) ((rd t at_).2.1 : Int) false ∧ ∀ b, Good t b → (numsAll b)[k]? = some (rd t at_).1) ∧ (¬ okN t at_ bad most → ∀ b, ¬ Good t b) := by
 have key : ∀ b, Good t b → ∃ v, (numsAll b)[k]? = some v ∧ 0 ≤ v ∧ v ≤ most ∧ bad = false ∧ rd t at_ = (v, posK b (k + 1), 0) := by
  intro b hb
  obtain ⟨v, h1, h2⟩ := hk b hb
  obtain ⟨hl, hv⟩ := List.getElem?_eq_some_iff.1 h1
  obtain ⟨h3, h4⟩ := h.2 b hb
  have := rd_good hb k hl
  rw [← h4, hv] at this
  exact ⟨v, h1, by rw [← hv]; exact (numsAll_mem hb.1 _ (List.getElem_mem hl)).1, h2, h3, this⟩
 refine ⟨fun _ => ⟨⟨⟨by omega, by have := rd_end t at_; omega⟩, fun b hb => ?_⟩, fun b hb => ?_⟩, fun hn b hb => ?_⟩
 ·obtain ⟨v, _, _, _, _, e⟩ := key b hb
  rw [e]
  exact ⟨rfl, rfl⟩
 ·obtain ⟨v, h1, _, _, _, e⟩ := key b hb
  rw [e]
  exact h1
 ·obtain ⟨v, _, h2, h3, h4, e⟩ := key b hb
  exact hn ⟨h4, by rw [e], by rw [e]; exact h2, by rw [e]; exact h3⟩
theorem num_step (B : Nat) (t : ByteArray) (k : Nat) (at_ most : Int) (bad : Bool) (w : World) (ht : t.size ≤ 1048576) (hm : 0 ≤ most) (hb : Rdr w B t at_ bad) (h : Rd t k at_ bad) (hk : ∀ b, Good t b → ∃ v, (numsAll b)[k]? = some v ∧ v ≤ most) :
  Calls Tryz.prog 124 #[.pointer (some ⟨B, 0, none⟩), .int .i64 most] w fun e w' => ∃ n at' bad', e = .returned (.int .i64 n) ∧ Rdr w' B t at' bad' ∧ Rd t (k + 1) at' bad' ∧ 0 ≤ n ∧ n ≤ most ∧ (∀ b, Good t b → (numsAll b)[k]? = some n) ∧ Aft B w w' := by
 obtain ⟨h1, h2⟩ := rd_step h hk
 refine (num_any B t at_ most bad w ht hb).mono ?_
 rintro e w' ⟨h3 | h3, ha⟩
 ·obtain ⟨ho, he, hr⟩ := h3
  exact ⟨_, _, _, he, hr, (h1 ho).1, ho.2.2.1, ho.2.2.2, (h1 ho).2, ha⟩
 ·obtain ⟨ho, he, hr⟩ := h3
  exact ⟨_, _, _, he, hr, ⟨h.1, fun b hb => absurd hb (h2 ho b)⟩, Int.le_refl _, hm, fun b hb => absurd hb (h2 ho b), ha⟩
theorem rd_first {t : ByteArray} (h : 1 ≤ t.size) : Rd t 0 1 false := ⟨⟨by decide, by omega⟩, fun b _ => ⟨rfl, by unfold posK; simp [numsL]⟩⟩
theorem head_ok {t : ByteArray} : (∀ b, Good t b → ∃ v, (numsAll b)[0]? = some v ∧ v ≤ 48) ∧ (∀ b, Good t b → ∃ v, (numsAll b)[1]? = some v ∧ v ≤ 48) ∧ (∀ b, Good t b → ∃ v, (numsAll b)[2]? = some v ∧ v ≤ 400) ∧ (∀ b, Good t b → ∃ v, (numsAll b)[3]? = some v ∧ v ≤ 257) := by
 refine ⟨fun b hb => ⟨_, (numsAll_head b).1, ?_⟩, fun b hb => ⟨_, (numsAll_head b).2.1, ?_⟩, fun b hb => ⟨_, (numsAll_head b).2.2.1, ?_⟩, fun b hb => ⟨_, (numsAll_head b).2.2.2, ?_⟩⟩
 ·have := hb.1; omega
 ·have := hb.1; have := bwtA_le hb.1; omega
 ·have := symS_len b; omega
 ·have := above_le b; omega
theorem aft_isI {B g : Nat} {T : TypeId} {w w' : World} {l : List Int} (h : IsI w g T l) (ha : Aft B w w') (hn : g ≠ B) : IsI w' g T l := (ha.block g h.lt hn).trans h
theorem zeros_up : up (tabL [] (Hf.zeros 257) []) = List.replicate 257 0 := by
 show up (Hf.zeros 257) = _
 unfold up Hf.zeros
 rw [List.map_replicate]
 rfl
theorem syL_len (b : ByteArray) : (syL (lenS b) 257).length = above (up (lenS b)) := by
 rw [above_eq, (lenS_facts b).1]
end Go.Proofs.YtjdlgpnhkfdehaaGreatDoor.Up


/- The walk of the specification's l06Open. -/
namespace Go.Proofs.YtjdlgpnhkfdehaaGreatDoor.Up
open Go.Proofs.YtjdlgpnhkfdehaaGreatDoor.Pk
open Go.RowKit
open Go.Proofs.YtjdlgpnhkfdehaaGreatDoor.Hf (up up_length up_set)
open Go.Proofs.YtjdlgpnhkfdehaaGreatDoor.Bi (above openR getR open_spec)
open Go.Proofs.YtjdlgpnhkfdehaaGreatDoor.So (bwtA unR unR_case unbwt_spec tOut)
open Go.Proofs.YtjdlgpnhkfdehaaGreatDoor.Fr (fbackR frontBack_spec)
open Go.Proofs.YtjdlgpnhkfdehaaGreatDoor.Ze (backR zerosBack_spec backR_len)
open Go.Proofs.YtjdlgpnhkfdehaaGreatDoor.In (Ints IsI made_ints)
open Go.Proofs.YtjdlgpnhkfdehaaGreatDoor.Dr (Aft)
theorem pair_ok {t : ByteArray} {j q : Nat} (h : ∀ b, Good t b → j + (q + 1) = above (up (lenS b))) : (∀ b, Good t b → ∃ v, (numsAll b)[4 + 2 * j]? = some v ∧ v ≤ 256) ∧ (∀ b, Good t b → ∃ v, (numsAll b)[4 + 2 * j + 1]? = some v ∧ v ≤ 12) := by
 refine ⟨fun b hb => ?_, fun b hb => ?_⟩
 ·have hj : j < (syL (lenS b) 257).length := by rw [syL_len]; have := h b hb; omega
  refine ⟨_, (numsAll_pair b j hj).1, ?_⟩
  have := syL_lt _ (List.getElem_mem hj)
  omega
 ·have hj : j < (syL (lenS b) 257).length := by rw [syL_len]; have := h b hb; omega
  refine ⟨_, (numsAll_pair b j hj).2, ?_⟩
  have := (lenS_facts b).2.1 (syL (lenS b) 257)[j]
  omega
theorem row_next {t : ByteArray} {j q y : Nat} {z : Int} {l : List Int} (h : ∀ b, Good t b → j + (q + 1) = above (up (lenS b)) ∧ l = up (tabL (lenS b) (Hf.zeros 257) ((syL (lenS b) 257).take j)))
  (h1 : ∀ b, Good t b → (numsAll b)[4 + 2 * j]? = some (y : Int)) (h2 : ∀ b, Good t b → (numsAll b)[4 + 2 * j + 1]? = some z) :
  ∀ b, Good t b → (j + 1) + q = above (up (lenS b)) ∧ l.set y z = up (tabL (lenS b) (Hf.zeros 257) ((syL (lenS b) 257).take (j + 1))) := by
 intro b hb
 obtain ⟨h3, h4⟩ := h b hb
 have hj : j < (syL (lenS b) 257).length := by rw [syL_len]; omega
 obtain ⟨k1, k2⟩ := numsAll_pair b j hj
 rw [h1 b hb] at k1
 rw [h2 b hb] at k2
 have e1 : y = (syL (lenS b) 257)[j] := by have := Option.some.inj k1; omega
 have e2 := Option.some.inj k2
 refine ⟨by omega, ?_⟩
 rw [tabL_next _ _ _ _ hj, h4, e2, e1, ← up_set]
theorem rdr_other {w : World} {B G k : Nat} {t : ByteArray} {a : Int} {bad : Bool} {v : Value} (h : Rdr w B t a bad) (hn : B < G) : Rdr (w.setCell ⟨G, k, none⟩ v) B t a bad := by
 unfold Rdr
 rw [Below.heap_setCell w ⟨G, k, none⟩ v B (by show B ≠ G; omega)]
 exact h
theorem low2 {B : Nat} {w0 w w' : World} (hB : w0.heap.size = B) (h : Below B w0 w) (hb : Below w.heap.size w w') : Below B w0 w' := h.trans (hb.mono (by rw [← hB]; exact h.size))
theorem ext_size (t : ByteArray) (p : Nat) : (t.extract p t.size).size ≤ t.size := by
 rw [ByteArray.size_extract]
 omega
theorem fieldX (yb : ByteArray) (yc : Int) (u : World) : (Instr.field 26 (.agg #[.string yb, .int .i64 0, .int .i64 yc]) 0).run Tryz.prog u = .ok (.string yb) u := by kernel_rfl
theorem all_read {t : ByteArray} {j p : Nat} {n2 n3 : Int} {l : List Int} (h : ∀ b, Good t b → j + 0 = above (up (lenS b)) ∧ l = up (tabL (lenS b) (Hf.zeros 257) ((syL (lenS b) 257).take j)))
    (hr : Rd t (4 + 2 * j) (p : Int) false) (h2 : ∀ b, Good t b → (numsAll b)[1]? = some n2) (h3 : ∀ b, Good t b → (numsAll b)[2]? = some n3) :
    ∀ b, Good t b → l = up (lenS b) ∧ n2 = ((bwtA b : Nat) : Int) ∧ n3 = ((symS b).length : Int) ∧ t.extract p t.size = bitsS b := by
  intro b hb
  obtain ⟨h4, h5⟩ := h b hb
  have hp := (hr.2 b hb).2
  refine ⟨?_, ?_, ?_, ?_⟩
  · rw [h5, List.take_of_length_le (by rw [syL_len]; omega), tabL_all _ (lenS_facts b).1]
  · have := h2 b hb
    rw [(numsAll_head b).2.1] at this
    exact (Option.some.inj this).symm
  · have := h3 b hb
    rw [(numsAll_head b).2.2.1] at this
    exact (Option.some.inj this).symm
  · have e : p = posK b (numsAll b).length := by
      rw [numsAll_len, ← h4, show 4 + 2 * (j + 0) = 4 + 2 * j by omega]
      omega
    rw [e]
    exact (posK_all hb).2
set_option maxRecDepth 100000 in
set_option maxHeartbeats 4000000 in
theorem openS_any (t : ByteArray) (w : World) (h1 : 1 ≤ t.size) (ht : t.size ≤ 8000) :
  Calls Tryz.prog 70 #[.string t] w fun e w' => (∃ r, e = .returned (.string r) ∧ r.size ≤ 400 ∧ ∀ b, Good t b → r = b) ∧ Below w.heap.size w w' := by
 obtain ⟨i0, hi, hz0, hz1, hz2⟩ := info_parts In.Tryz.infoI2
 have HT1 := hideP h1
 go_enter Tryz.func70, Tryz.ntmps70
 go_wp2_with fail
 have R0 : Hid (Rdr (w.alloc (.cells #[.string t, .int .i64 1, .bool false] 137)) w.heap.size t 1 false) := heap_alloc_new w _
 have L0 : Hid (Below w.heap.size w (w.alloc (.cells #[.string t, .int .i64 1, .bool false] 137))) := (Below.refl _ _).alloc (Nat.le_refl _) _
 generalize hww : w.alloc (.cells #[.string t, .int .i64 1, .bool false] 137) = w0 at R0 L0 ⊢
 clear hww
 generalize hBe : w.heap.size = B at R0 L0 ⊢
 have HBE := hideP hBe
 clear hBe
 refine (num_step B t 0 1 48 false w0 (by omega) (by decide) R0.out (rd_first HT1.out) head_ok.1).mono ?_
 rintro e w1 ⟨n1, p1, b1, rfl, hr, hd, hn1, hn2, hn3, ha⟩
 have R1 := hideP hr
 have D1 := hideP hd
 have F1 := hideP hn3
 have L1 := hideP (Aft.below L0.out ha (Nat.le_refl _) (Nat.le_of_lt (rdr_lt R0.out)))
 clear hr hd hn1 hn2 hn3 ha R0 L0 F1
 go_wp2_with fail
 refine (num_step B t 1 p1 48 b1 w1 (by omega) (by decide) R1.out D1.out head_ok.2.1).mono ?_
 rintro e w2 ⟨n2, p2, b2, rfl, hr, hd, hn1, hn2, hn3, ha⟩
 have R2 := hideP hr
 have D2 := hideP hd
 have F2 := hideP hn3
 have L2 := hideP (Aft.below L1.out ha (Nat.le_refl _) (Nat.le_of_lt (rdr_lt R1.out)))
 clear hr hd hn1 hn2 hn3 ha R1 D1 L1
 go_wp2_with fail
 refine (num_step B t 2 p2 400 b2 w2 (by omega) (by decide) R2.out D2.out head_ok.2.2.1).mono ?_
 rintro e w3 ⟨n3, p3, b3, rfl, hr, hd, hn1, hn2, hn3, ha⟩
 have R3 := hideP hr
 have D3 := hideP hd
 have F3 := hideP hn3
 have L3 := hideP (Aft.below L2.out ha (Nat.le_refl _) (Nat.le_of_lt (rdr_lt R2.out)))
 clear hr hd hn1 hn2 hn3 ha R2 D2 L2
 go_wp2_with (at_make; refine wpList_make_full _ rfl (.const (.int .i64 257)) (.const (.int .i64 257)) 97 rfl w3.heap.size 2 i0 (.int .i64 0) 1 Tryz.underlying97 hi hz0 hz1 .i64 .i64 _ _ 257 rfl rfl (by omega) (by omega) (by rw [hz2]; omega) (by unfold maxLen; omega) (Nat.le_refl _) ?_; intro wm hown hgrow; have I0 := hideP (made_ints hown); have HBm := hideP ((Below.refl w3.heap.size w3).grown hgrow (Nat.le_refl _) (by simp)); clear hown hgrow)
 have Rm := hideP (show Rdr wm B t p3 b3 from blk_low R3.out HBm.out)
 have Lm := hideP (L3.out.trans (HBm.out.mono (Nat.le_of_lt (rdr_lt R3.out))))
 have hBG := rdr_lt R3.out
 clear HBm L3 R3
 generalize w3.heap.size = G at I0 hBG ⊢
 refine (num_step B t 3 p3 257 b3 wm (by omega) (by decide) Rm.out D3.out head_ok.2.2.2).mono ?_
 rintro e w5 ⟨n4, p4, b4, rfl, hr, hd, hn1, hn2, hn3, ha⟩
 have R4 := hideP hr
 have D4 := hideP hd
 have F4 := hideP hn3
 have L4 := hideP (Aft.below Lm.out ha (Nat.le_refl _) (Nat.le_of_lt (rdr_lt Rm.out)))
 have I5 := hideP (aft_isI I0.out ha (by omega))
 obtain ⟨kq, rfl⟩ := Int.eq_ofNat_of_zero_le hn1
 have hkq : kq ≤ 257 := by omega
 have HK : Hid (∀ b, Good t b → 0 + kq = above (up (lenS b)) ∧ List.replicate 257 (0 : Int) = up (tabL (lenS b) (Hf.zeros 257) ((syL (lenS b) 257).take 0))) := fun b hb => by
  have := hn3 b hb
  rw [(numsAll_head b).2.2.2] at this
  have e := Option.some.inj this
  refine ⟨by omega, ?_⟩
  rw [List.take_zero]
  exact zeros_up.symm
 clear hr hd hn1 hn2 hn3 ha Rm D3 Lm F4 I0
 go_wp2_with fail
 go_loopw [7, 8] (fun kv _ wr => ∃ (kk j : Nat) (p : Int) (bd : Bool) (l : List Int), kv = .int .i64 kk ∧ kk ≤ 257 ∧ Rdr wr B t p bd ∧ Rd t (4 + 2 * j) p bd ∧ IsI wr G 2 l ∧ l.length = 257 ∧ (∀ b, Good t b → j + kk = above (up (lenS b)) ∧ l = up (tabL (lenS b) (Hf.zeros 257) ((syL (lenS b) 257).take j))) ∧ Below B w wr) (fun kv _ _ => (intOf kv).toNat)
 case atStart => exact ⟨kq, 0, p4, b4, _, rfl, hkq, R4.out, D4.out, I5.out, List.length_replicate .., HK.out, L4.out⟩
 case round =>
  obtain ⟨kk, j, p, bd, l, rfl, hkk, hr, hd, hil, hll, hg, hlw⟩ := hrel
  have RW := hideP hr
  have DW := hideP hd
  have IW := hideP hil
  have HG := hideP hg
  have LW := hideP hlw
  have HLL := hideP hll
  have cB2 : wr.cell? ⟨B, 2, none⟩ = some (.bool bd) := cell_of_row wr B 2 _ _ _ hr
  have cB1 : wr.cell? ⟨B, 1, none⟩ = some (.int .i64 p) := cell_of_row wr B 1 _ _ _ hr
  clear hr hd hil hg hlw hll R4 D4 I5 HK L4
  cases bd with
  | true =>
   have HNO : Hid (∀ b, ¬ Good t b) := fun b hb => absurd (DW.out.2 b hb).1 (by decide)
   by_cases hk0 : kk = 0
   ·subst hk0
    go_wp2_with fail
    go_ret
    exact ⟨⟨_, rfl, by decide, fun b hb => absurd hb (HNO.out b)⟩, by rw [HBE.out]; exact LW.out⟩
   ·have hk1 : (0 : Int) < (kk : Int) := by omega
    go_wp2_with fail
    go_ret
    exact ⟨⟨_, rfl, by decide, fun b hb => absurd hb (HNO.out b)⟩, by rw [HBE.out]; exact LW.out⟩
  | false =>
   by_cases hk0 : kk = 0
   ·subst hk0
    have hp1 := DW.out.1.1
    have hp2 := DW.out.1.2
    obtain ⟨pn, rfl⟩ := Int.eq_ofNat_of_zero_le hp1
    have HALL := hideP (all_read HG.out DW.out F2.out F3.out)
    have HIN := hideP (IW.out.ints (B := wr.heap.size) IW.out.lt)
    have hpn : pn ≤ t.size := by omega
    clear HG DW IW RW F2 F3
    go_wp2_with fail
    refine (open_spec (t.extract pn t.size) _ wr (by have := ext_size t pn; omega)).mono ?_
    rintro e w8 ⟨rfl, hb8⟩
    have I8 := hideP (ints_keep HIN.out hb8)
    have L8 := hideP (low2 HBE.out LW.out hb8)
    clear hb8 HIN LW cB1 cB2
    obtain ⟨xr, hxr⟩ : ∃ x, x = t.extract pn t.size := ⟨_, rfl⟩
    have hxs : xr.size ≤ 8000 := by rw [hxr]; have := ext_size t pn; omega
    have hxz : t.size - pn = xr.size := by rw [hxr, ByteArray.size_extract]; omega
    rw [← hxr] at HALL ⊢
    rw [hxz]
    clear hxr hxz
    obtain ⟨bits, hbits⟩ : ∃ x, x = openR xr (8 * (xr.size : Int)) := ⟨_, rfl⟩
    have hsz : bits.size ≤ 64000 := by rw [hbits]; exact openR_size xr _ hxs
    have HGS := hideP (fun (W : World) (h : Ints W W.heap.size (some ⟨G, 0, none⟩) l) => Bi.get_spec l bits n3 (some ⟨G, 0, none⟩) 257 W h (by have := HLL.out; omega) (by omega))
    obtain ⟨xl, xa, xc, hx⟩ : ∃ x y z, getR l bits n3 = (x, y, z) := ⟨_, _, _, rfl⟩
    have HSY : Hid (∀ b, Good t b → xl = symS b ∧ n2 = ((bwtA b : Nat) : Int)) := fun b hb => by
     obtain ⟨g1, g2, g3, g4⟩ := HALL.out b hb
     have := bits_back hb
     rw [← g1, ← g3, ← g4, ← hbits, hx] at this
     exact ⟨congrArg Prod.fst this, g2⟩
    have ey : xl.length ≤ 400 := by
     have := Bi.getR_length l bits n3
     rw [hx] at this
     exact this
    rw [hx, HLL.out] at HGS
    rw [← hbits]
    clear hbits hx HALL
    go_wp2_with fail
    refine (HGS.out w8 I8.out).mono ?_
    rintro e w9 ⟨v9, rfl, ho9, hb9⟩
    have L9 := hideP (low2 HBE.out L8.out hb9)
    clear hb9 I8 L8 HGS
    obtain ⟨ay, cy, hv, hi9⟩ := In.OwnIn.ints ho9
    obtain ⟨ny, hny⟩ : ∃ x, x = xl.length := ⟨_, rfl⟩
    rw [← hny] at hv ey
    subst hv
    have NY := hideP hny
    have I9 := hideP hi9
    clear hny hi9 ho9
    go_wp2_with fail
    have hb10 : Below w9.heap.size w9 (w9.alloc (.cells #[.slice ay ny cy, .int .i64 xa, .int .i64 xc] 139)) := (Below.refl _ _).alloc (Nat.le_refl _) _
    generalize hww : w9.alloc (.cells #[.slice ay ny cy, .int .i64 xa, .int .i64 xc] 139) = w10 at hb10 ⊢
    clear hww
    have I10 := hideP (ints_keep I9.out hb10)
    have L10 := hideP (low2 HBE.out L9.out hb10)
    clear hb10 I9 L9
    have HZI := hideP (fun (W : World) (h : Ints W W.heap.size ay xl) => zerosBack_spec xl ay cy W.heap.size W h (Nat.le_refl _) (by have := NY.out; omega))
    rw [← NY.out] at HZI
    refine (HZI.out w10 I10.out).mono ?_
    rintro e w11 ⟨v11, rfl, ho11, hb11⟩
    have L11 := hideP (low2 HBE.out L10.out hb11)
    clear hb11 I10 L10 HZI
    obtain ⟨az, cz, hv, _, hi11⟩ := ho11.ints
    obtain ⟨nz, hnz⟩ : ∃ x, x = (backR xl).length := ⟨_, rfl⟩
    rw [← hnz] at hv
    subst hv
    have NZ := hideP hnz
    have I11 := hideP hi11
    clear hnz hi11 ho11
    have ez : nz ≤ 400 := by rw [NZ.out]; exact backR_len _
    have HFI := hideP (fun (W : World) (h : Ints W W.heap.size az (backR xl)) => frontBack_spec (backR xl) az cz W.heap.size W h (Nat.le_refl _) (by have := NZ.out; omega))
    rw [← NZ.out] at HFI
    go_wp2_with fail
    refine (HFI.out w11 I11.out).mono ?_
    rintro e w12 ⟨rfl, hb12⟩
    have L12 := hideP (low2 HBE.out L11.out hb12)
    clear hb12 I11 L11 HFI
    have hfs : (fbackR (backR xl)).length ≤ 400 := fback_len _
    obtain ⟨tx, htx⟩ : ∃ x : ByteArray, x = ⟨(fbackR (backR xl)).toArray⟩ := ⟨_, rfl⟩
    have hts : tx.size ≤ 400 := by rw [htx, size_list]; exact hfs
    rw [← htx]
    have HTX := hideP htx
    clear htx hfs
    go_wp2_with fail
    refine (unbwt_spec tx n2 w12 (by omega)).mono ?_
    rintro e w13 ⟨rfl, hb13⟩
    have L13 := hideP (low2 HBE.out L12.out hb13)
    clear hb13 L12
    obtain ⟨yb, yc, hy⟩ := unR_case tx n2
    have HEND : Hid (∀ b, Good t b → yb = b) := fun b hb => by
     obtain ⟨g1, g2⟩ := HSY.out b hb
     have h3 := block_back hb.1
     rw [← g1, ← HTX.out, ← g2, hy] at h3
     unfold tOut at h3
     simp at h3
     exact h3.1
    have HYS : Hid (yb.size ≤ 400) := unR_size (by omega) hy
    rw [hy]
    clear hy
    have hfld := fieldX yb yc
    go_wp2
    go_ret
    exact ⟨⟨_, rfl, HYS.out, HEND.out⟩, by rw [HBE.out]; exact L13.out⟩
   ·obtain ⟨q, rfl⟩ : ∃ q, kk = q + 1 := ⟨kk - 1, by omega⟩
    have hk1 : (0 : Int) < ((q + 1 : Nat) : Int) := by omega
    have HOK := hideP (pair_ok (q := q) fun b hb => (HG.out b hb).1)
    go_wp2_with fail
    refine (num_step B t (4 + 2 * j) p 256 false wr (by omega) (by decide) RW.out DW.out HOK.out.1).mono ?_
    rintro e w6 ⟨y, p6, b6, rfl, hr, hd, hn1, hn2, hn3, ha⟩
    have R6 := hideP hr
    have D6 := hideP hd
    have F6 := hideP hn3
    have I6 := hideP (aft_isI IW.out ha (by omega))
    have L6 := hideP (Aft.below LW.out ha (Nat.le_refl _) (Nat.le_of_lt (rdr_lt RW.out)))
    obtain ⟨yn, rfl⟩ := Int.eq_ofNat_of_zero_le hn1
    have hyn : yn < 257 := by omega
    clear hr hd hn1 hn2 hn3 ha cB1 cB2 RW DW IW LW
    go_wp2_with fail
    refine (num_step B t (4 + 2 * j + 1) p6 12 b6 w6 (by omega) (by decide) R6.out D6.out HOK.out.2).mono ?_
    rintro e w7 ⟨z, p7, b7, rfl, hr, hd, hn1, hn2, hn3, ha⟩
    have R7 := hideP hr
    have D7 := hideP hd
    have F7 := hideP hn3
    have I7 := hideP (aft_isI I6.out ha (by omega))
    have L7 := hideP (Aft.below L6.out ha (Nat.le_refl _) (Nat.le_of_lt (rdr_lt R6.out)))
    clear hr hd hn1 hn2 hn3 ha R6 D6 I6 L6
    have HNX := hideP (row_next HG.out F6.out F7.out)
    have cy := I7.out.cell (j := yn) (by have := HLL.out; omega)
    have fy := I7.out.frozen yn
    have hyi : (yn : Int) < 257 := by omega
    generalize l[yn]'(by have := HLL.out; omega) = old at cy
    clear HG F6 F7 HOK
    go_wp2_with fail
    go_roundw
    case rel =>
     refine ⟨q, j + 1, p7, b7, l.set yn z, by go_num, by omega, ?_, ?_, I7.out.set yn z, by rw [List.length_set]; exact HLL.out, HNX.out, L7.out.setCell (p := ⟨G, yn, none⟩) (by show B ≤ G; omega) _⟩
     ·exact rdr_other R7.out (by omega)
     ·rw [show 4 + 2 * (j + 1) = 4 + 2 * j + 1 + 1 by omega]
      exact D7.out
    case measure => simp [intOf]
end Go.Proofs.YtjdlgpnhkfdehaaGreatDoor.Up


/- The walk of spec.Unseal: it answers Se.unsealV of its text, and writes nothing that was there. -/
namespace Go.Proofs.YtjdlgpnhkfdehaaGreatDoor.Se
open Go.RowKit
open Go.Proofs.YtjdlgpnhkfdehaaGreatDoor.Nu (bv arr_string ret_strJ hideJ)
theorem seal_split (s t : ByteArray) (ht : t = s.extract 0 (s.size - 4)) (hts : t.size ≤ 7996) : sealV t = s ↔ fourS (crcOf t) = s.extract (s.size - 4) s.size := by
 have e : t ++ s.extract (s.size - 4) s.size = s := by
  rw [ht, ByteArray.extract_append_extract]; simp [Nat.max_eq_right]
 unfold sealV
 rw [if_pos hts]
 constructor
 ·intro h
  rw [← e] at h
  generalize s.extract (s.size - 4) s.size = r at h e ⊢
  have h' : t ++ fourS (crcOf t) = t ++ r := by
   rw [e] at h
   rw [e]
   exact h
  exact (ByteArray.append_right_inj t).1 h'
 ·intro h
  rw [h]
  exact e
set_option maxRecDepth 100000 in
set_option maxHeartbeats 1000000 in
theorem unseal_spec (s : ByteArray) (w : World) (hs : s.size ≤ maxLen) :
  Calls Tryz.prog 61 #[.string s] w fun e w' => e = .returned (unsealV s) ∧ Below w.heap.size w w' := by
 unfold maxLen at hs
 by_cases h1 : 8000 < s.size
 ·have HV := hideJ (show unsealV s = outV ⟨#[]⟩ 0 2 by unfold unsealV; rw [if_pos h1])
  go_enter Tryz.func61, Tryz.ntmps61
  go_wp2
  refine bodyPost_ret (v := outV ⟨#[]⟩ 0 2) (by simp [results, outV, Tryz.results61, go_sem]) rfl ⟨by rw [HV.out], ?_⟩
  exact (Below.refl _ _).alloc (Nat.le_refl _) _
 ·by_cases h2 : s.size < 4
  ·have HV := hideJ (show unsealV s = outV ⟨#[]⟩ 0 4 by unfold unsealV; rw [if_neg h1, if_pos h2])
   go_enter Tryz.func61, Tryz.ntmps61
   go_wp2
   refine bodyPost_ret (v := outV ⟨#[]⟩ 0 4) (by simp [results, outV, Tryz.results61, go_sem]) rfl ⟨by rw [HV.out], ?_⟩
   exact (Below.refl _ _).alloc (Nat.le_refl _) _
  ·obtain ⟨t, ht⟩ : ∃ t, t = s.extract 0 (s.size - 4) := ⟨_, rfl⟩
   have hts : t.size ≤ 7996 := by rw [ht]; simp; omega
   by_cases hq : sealV t = s
   ·have HV := hideJ (unsealV_yes s t h1 h2 ht hq)
    have hB : ((fourS (crcOf t)).toList == (s.extract (s.size - 4) s.size).toList) = true := by rw [list_eq_iff]; exact decide_eq_true ((seal_split s t ht hts).1 hq)
    have hB2 : ((fourS (crcOf t)).toList == (s.extract ((s.size : Int) - 4).toNat s.size).toList) = true := by rw [show ((s.size : Int) - 4).toNat = s.size - 4 from by omega]; exact hB
    have HT := hideJ ht
    clear ht hq
    have g1 : (0 : Int) ≤ (s.size : Int) - 4 := by omega
    have g2 : (s.size : Int) - 4 ≤ (s.size : Int) := by omega
    have hwr : IntKind.i64.wrap ((s.size : Int) - 4) = (s.size : Int) - 4 := by rw [IntKind.wrap_i64]; omega
    go_enter Tryz.func61, Tryz.ntmps61
    go_wp2
    rw [← HT.out]
    go_region_with (first | (go_at_call 117; refine (Cr.crc_spec 0 t _ (by omega) (by omega)).mono ?_; rintro e w' ⟨rfl, hw⟩; subst w') | (go_at_call 116; refine (four_any (crcOf t) _ (crcOf_lt t)).mono ?_; rintro e wa ⟨rfl, hb1⟩))
    obtain ⟨hc1, hf1⟩ := bcell hb1
    have hz1 : w.heap.size + 1 ≤ wa.heap.size := by have := hb1.size; simpa using this
    go_wp2
    refine bodyPost_ret (v := outV t 0 0) (by simp [results, outV, Tryz.results61, go_sem, hc1]) rfl ⟨by rw [HV.out], ?_⟩
    exact ((below2d hb1).setCell (Nat.le_refl _) _ |>.setCell (Nat.le_refl _) _).setCell (Nat.le_refl _) _
   ·have HV := hideJ (unsealV_no s t h1 h2 ht hq)
    have hB : ((fourS (crcOf t)).toList == (s.extract (s.size - 4) s.size).toList) = false := by rw [list_eq_iff]; exact decide_eq_false (fun h => hq ((seal_split s t ht hts).2 h))
    have hB2 : ((fourS (crcOf t)).toList == (s.extract ((s.size : Int) - 4).toNat s.size).toList) = false := by rw [show ((s.size : Int) - 4).toNat = s.size - 4 from by omega]; exact hB
    have HT := hideJ ht
    clear ht hq
    have g1 : (0 : Int) ≤ (s.size : Int) - 4 := by omega
    have g2 : (s.size : Int) - 4 ≤ (s.size : Int) := by omega
    have hwr : IntKind.i64.wrap ((s.size : Int) - 4) = (s.size : Int) - 4 := by rw [IntKind.wrap_i64]; omega
    go_enter Tryz.func61, Tryz.ntmps61
    go_wp2
    rw [← HT.out]
    go_region_with (first | (go_at_call 117; refine (Cr.crc_spec 0 t _ (by omega) (by omega)).mono ?_; rintro e w' ⟨rfl, hw⟩; subst w') | (go_at_call 116; refine (four_any (crcOf t) _ (crcOf_lt t)).mono ?_; rintro e wa ⟨rfl, hb1⟩))
    obtain ⟨hc1, hf1⟩ := bcell hb1
    have hz1 : w.heap.size + 1 ≤ wa.heap.size := by have := hb1.size; simpa using this
    go_wp2
    refine bodyPost_ret (v := outV ⟨#[]⟩ 0 5) (by simp [results, outV, Tryz.results61, go_sem, hc1]) rfl ⟨by rw [HV.out], ?_⟩
    exact ((below2d hb1).setCell (Nat.le_refl _) _ |>.setCell (Nat.le_refl _) _).setCell (Nat.le_refl _) _
end Go.Proofs.YtjdlgpnhkfdehaaGreatDoor.Se


/- What the program's FrontOf answers. -/
namespace Go.Proofs.YtjdlgpnhkfdehaaGreatDoor.Fr
open Go.RowKit
open Go.Proofs.YtjdlgpnhkfdehaaGreatDoor.Sh (IsB rowF upd made_row bt bt_get)
open Go.Proofs.YtjdlgpnhkfdehaaGreatDoor.Ze (hideZ)
open Go.Proofs.YtjdlgpnhkfdehaaGreatDoor.St (Aft)
open Go.Proofs.YtjdlgpnhkfdehaaGreatDoor.In (Ints IsI OwnI made_ints)
open Go.Proofs.YtjdlgpnhkfdehaaGreatDoor.In.Tryz (infoI2)
def padI (xs : List Int) (n : Nat) : List Int := xs ++ List.replicate (n - xs.length) 0
theorem padI_len (xs : List Int) (n : Nat) (h : xs.length ≤ n) : (padI xs n).length = n := by simp [padI]; omega
theorem padI_next (xs : List Int) (n : Nat) (v : Int) (h : xs.length < n) : (padI xs n).set xs.length v = padI (xs ++ [v]) n := by
 unfold padI
 rw [List.set_append_right _ _ (Nat.le_refl _), Nat.sub_self, List.append_assoc]
 congr 1
 obtain ⟨m, hm⟩ : ∃ m, n - xs.length = m + 1 := ⟨n - xs.length - 1, by omega⟩
 rw [hm, List.replicate_succ, List.length_append, List.length_singleton, show n - (xs.length + 1) = m by omega]
 rfl
theorem padI_all (xs : List Int) : padI xs xs.length = xs := by simp [padI]
theorem list_get (t : ByteArray) (k : Nat) (h : k < t.size) : ∃ h' : k < t.data.toList.length, t.data.toList[k] = t[k] := ⟨by simpa using h, by simp [ByteArray.getElem_eq_getElem_data]⟩
theorem row_own {w : World} {g base : Nat} {l : List Int} (h : IsI w g 2 l) (hb : base ≤ g) (hm : l.length ≤ maxLen) : OwnI w base (.slice (some ⟨g, 0, none⟩) l.length l.length) l :=
 ⟨by simp, .inr ⟨g, l.length, _, rfl, hb, h, Nat.le_refl _, hm, by simp [In.irow], by rw [List.take_of_length_le (by simp [In.irow])]; simp [In.irow]⟩⟩
theorem below_drewN {B : Nat} {w w' : World} (h : Below B w w') (n : Nat) : Below B w (w'.drewN n) := ⟨h.os, h.tape, h.output, h.size, h.block⟩
theorem isI_of_heap {w w' : World} {g t : Nat} {l : List Int} (h : IsI w g t l) (e : w'.heap[g]? = w.heap[g]?) : IsI w' g t l := by
 unfold IsI
 rw [e]
 exact h
set_option maxRecDepth 100000 in
set_option maxHeartbeats 1000000 in
theorem frontOf_impl (t : ByteArray) (w : World) (hn : t.size ≤ 1048576) :
  Calls Tryz.prog 107 #[.string t] w fun e w' => ∃ v, e = .returned v ∧ OwnI w' w.heap.size v (frontR t.data.toList) ∧ Below w.heap.size w w' := by
 obtain ⟨i0, hi0, hz0, hz1, hz2⟩ := info_parts infoI2
 have hdl : t.data.toList.length = t.size := by simp
 by_cases hlong : 400 < t.size
 ·rw [frontR_no (by omega)]
  clear hdl
  go_enter Tryz.func107, Tryz.ntmps107
  go_wp2_with fail
  go_step3
  go_wp2_with fail
  try rw [Exit.noGoto_ret]
  go_ret
  exact ⟨_, rfl, OwnI.nil _ _, Below.refl _ _⟩
 ·rw [frontR_yes (by omega)]
  have HDL := hideZ hdl
  clear hdl
  have hlong' : ¬ (400 : Int) < (t.size : Int) := by omega
  go_enter Tryz.func107, Tryz.ntmps107
  go_wp2_with fail
  go_step3
  go_wp2_with fail
  refine (rising_impl w).mono ?_
  rintro e w1 ⟨rfl, hb1⟩
  have HB1 := hideZ hb1
  have z1 := hb1.size
  clear hb1
  obtain ⟨n, hln⟩ : ∃ n, n = t.size := ⟨_, rfl⟩
  go_wp2_with (first | ((with_reducible refine wpList_alloc_row Tryz.zeroA166 ?_); intro w2 hb2 hbel2 hs2 ho2; have G2 := hideZ hb2; have HB2 := hideZ (HB1.out.trans (hbel2 _ z1)); clear hb2 hbel2 ho2) | ((with_reducible refine Sh.wpList_store_row' G2.out Tryz.sizeA166 row0 ?_ ?_ ?_); (· rfl); (· rfl); intro w3 hb3 hbel3 hs3 ho3; have G3 := hideZ hb3; have HB3 := hideZ (HB2.out.trans (hbel3 _ z1)); clear hb3 hbel3 ho3) | (at_make; refine wpList_make_full _ rfl (.tmp 12) (.tmp 12) 97 rfl w3.heap.size 2 i0 (.int .i64 0) 1 Tryz.underlying97 hi0 hz0 hz1 .i64 .i64 _ _ t.size rfl rfl (by simp) (by simp) (by rw [hz2]; omega) (by unfold maxLen; omega) (Nat.le_refl _) ?_; intro w4 hown4 hgrow4; have HR4 := hideZ (made_ints hown4); have hb4 := (Below.refl w3.heap.size w3).grown hgrow4 (Nat.le_refl _) (by simp); have G4 := hideZ (G3.out.below hb4 (by omega)); have HB4 := hideZ (HB3.out.trans (hb4.mono (by omega))); clear hown4 hgrow4 hb4))
  go_step3
  go_wp2_with fail
  clear hln n
  obtain ⟨g1, hg1⟩ : ∃ g1, g1 = w1.heap.size := ⟨_, rfl⟩
  have e3 : w3.heap.size = w1.heap.size + 1 := by omega
  rw [e3] at HR4
  have hgw : w.heap.size ≤ g1 := by omega
  rw [← hg1] at G4 HR4 ⊢
  obtain ⟨g2, hg2⟩ : ∃ g2, g2 = g1 + 1 := ⟨_, rfl⟩
  have hg12 : g1 < g2 := by omega
  rw [← hg2] at HR4 ⊢
  clear e3 hg1 hg2 hs2 hs3 z1
  obtain ⟨l, hl⟩ : ∃ l, l = t.data.toList := ⟨_, rfl⟩
  rw [← hl] at HDL
  have HL := hideZ hl
  clear hl
  go_loopw [16] (fun i wr => ∃ k : Nat, i = .int .i64 k ∧ k ≤ t.size ∧ IsB wr g1 166 .u8 256 (fst' (l.take k)).2 ∧ IsI wr g2 2 (padI (fst' (l.take k)).1 t.size) ∧ Below w.heap.size w wr) (fun i _ => t.size - (intOf i).toNat)
  case atStart => exact ⟨0, rfl, Nat.zero_le _, G4.out, by simpa [padI, fst'] using HR4.out, HB4.out⟩
  case round =>
   obtain ⟨k, rfl, hk, hrow, hpl, hbel⟩ := hrel
   obtain ⟨hfull, hlen⟩ := fst_full l k (by have := HDL.out; omega)
   have R1 := hideZ hrow
   have T1 := hideZ hpl
   have GB := hideZ hbel
   clear hbel
   by_cases hlt : k < t.size
   ·obtain ⟨hkl', hget⟩ := list_get t k hlt
    have hkl : k < l.length := by rw [HDL.out]; exact hlt
    have hge : l[k] = t[k] := by
     have := HL.out
     subst this
     exact hget
    have HM := hideZ (fst_more hkl)
    rw [hge] at HM
    obtain ⟨c, hc⟩ : ∃ c : UInt8, t[k] = c := ⟨_, rfl⟩
    rw [hc] at HM
    obtain ⟨f, hf⟩ : ∃ f, f = (fst' (l.take k)).2 := ⟨_, rfl⟩
    obtain ⟨ps, hps⟩ : ∃ ps, ps = (fst' (l.take k)).1 := ⟨_, rfl⟩
    rw [← hf] at R1 HM hfull
    rw [← hps] at T1 HM hlen
    have hlk := look_some hfull (c := c.toNat) (UInt8.toNat_lt _)
    obtain ⟨q, hq⟩ : ∃ q, q = look f c.toNat := ⟨_, rfl⟩
    rw [← hq] at hlk HM
    have hq256 := hlk.1
    have HLK := hideZ hlk.2
    have HLE := hideZ hlen
    have HFU := hideZ hfull
    clear hget hge hf hps hrow hpl hfull hlen hlk hq
    go_wp2_with fail
    go_loopw [19] (fun i wr2 => ∃ p : Nat, i = .int .i64 p ∧ p ≤ q ∧ IsB wr2 g1 166 .u8 256 f ∧ IsI wr2 g2 2 (padI ps t.size) ∧ Below w.heap.size w wr2) (fun i _ => q - (intOf i).toNat)
    case atStart => exact ⟨0, rfl, Nat.zero_le _, R1.out, T1.out, GB.out⟩
    case round =>
     obtain ⟨p, rfl, hp, hrow2, hpl2, hbel2⟩ := hrel
     have R2 := hideZ hrow2
     have T2 := hideZ hpl2
     have GB2 := hideZ hbel2
     have c1 := hrow2.cell (j := p) (by omega)
     have hbnd := HFU.out.2 p (by omega)
     obtain ⟨y, hy⟩ : ∃ y, y = f p := ⟨_, rfl⟩
     rw [← hy] at c1 hbnd
     have HY := hideZ hy
     clear hrow2 hpl2 hbel2 hy
     by_cases hpq : p = q
     ·have hyc : (y == ((c.toNat : Nat) : Int)) = true := beq_iff_eq.2 (by rw [HY.out, hpq]; exact HLK.out.1)
      have hq1 : q < 256 := hq256
      have c2 := T2.out.cell (j := k) (by rw [padI_len _ _ (by have := HLE.out; omega)]; exact hlt)
      have f2 := T2.out.frozen k
      have HT3 : Hid (∀ nq, IsI ((wr.drewN nq).setCell ⟨g2, k, none⟩ (.int .i64 p)) g2 2 (padI (ps ++ [(p : Int)]) t.size)) := fun nq => by
       have h1 : IsI (wr.drewN nq) g2 2 (padI ps t.size) := T2.out
       have h2 := h1.set k (p : Int)
       have h3 := padI_next ps t.size (p : Int) (by have := HLE.out; omega)
       rw [HLE.out] at h3
       rw [h3] at h2
       exact h2
      have HR3 : Hid (∀ nq, IsB ((wr.drewN nq).setCell ⟨g2, k, none⟩ (.int .i64 p)) g1 166 .u8 256 f) := fun nq => by
       have h1 : IsB (wr.drewN nq) g1 166 .u8 256 f := R2.out
       exact h1.set_other _ _ (by simp; omega)
      have HBr := hideZ (fun nq => bring_impl g1 p 166 f _ (HR3.out nq) (by omega))
      have HB3' : Hid (∀ nq, Below w.heap.size w ((wr.drewN nq).setCell ⟨g2, k, none⟩ (.int .i64 p))) := fun nq => (below_drewN GB2.out nq).setCell (p := ⟨g2, k, none⟩) (by simp; omega) _
      rw [← hpq] at HM
      clear hpq
      go_wp2_with fail
      go_quiet (fail)
      all_goals (try go_wp2_with fail)
      refine (HBr.out _).mono ?_
      rintro e w5 ⟨rfl, hb5, ha5⟩
      have G5 := hideZ hb5
      have T5 := hideZ (isI_of_heap (HT3.out _) (ha5.2.2.2.2 g2 (HT3.out _).lt (by omega)))
      have B5 := hideZ (Aft.below (HB3'.out _) ha5 (by omega) (by have := (HT3.out nq).lt; omega))
      clear hb5 ha5
      go_wp2_with fail
      go_roundw
      case rel => exact ⟨k + 1, by go_num, by omega, by rw [HM.out]; exact G5.out, by rw [HM.out]; exact T5.out, B5.out⟩
      case measure => simp [intOf]; omega
     ·have hyc : (y == ((c.toNat : Nat) : Int)) = false := beq_eq_false_iff_ne.2 (by rw [HY.out]; exact HLK.out.2 p (by omega))
      go_wp2_with fail
      go_quiet (fail)
      all_goals (try go_wp2_with fail)
      go_roundw
      case rel => exact ⟨p + 1, by go_num, by omega, R2.out, T2.out, below_drewN GB2.out _⟩
      case measure => simp [intOf]; omega
   ·obtain rfl : k = t.size := by omega
    have HT : Hid (l.take t.size = l) := by
     unfold Hid
     rw [← HDL.out, List.take_length]
    rw [HT.out] at hpl hlen
    have hpa : padI (fst' l).1 t.size = (fst' l).1 := by
     rw [← hlen]
     exact padI_all _
    rw [hpa] at hpl
    have HV := hideZ (row_own (base := w.heap.size) hpl (by omega) (by unfold maxLen; omega))
    rw [hlen] at HV
    have HLL := HL.out
    rw [HLL] at HV
    clear hrow hpl hfull hlen hpa HLL
    go_wp2_with fail
    try rw [Exit.noGoto_ret]
    go_ret
    exact ⟨_, rfl, HV.out, GB.out⟩
end Go.Proofs.YtjdlgpnhkfdehaaGreatDoor.Fr


/- The walks of shortForm and impl.BlockPack. -/
namespace Go.Proofs.YtjdlgpnhkfdehaaGreatDoor.Pk
open Go.RowKit
open Go.Proofs.YtjdlgpnhkfdehaaGreatDoor.St (Strs IsS)
open Go.Proofs.YtjdlgpnhkfdehaaGreatDoor.In (Ints IsI OwnI)
open Go.Proofs.YtjdlgpnhkfdehaaGreatDoor.Hf (up up_length)
open Go.Proofs.YtjdlgpnhkfdehaaGreatDoor.Bi (above putR packR)
open Go.Proofs.YtjdlgpnhkfdehaaGreatDoor.So (bwtT bwtA bwtC sOut bwt_impl)
open Go.Proofs.YtjdlgpnhkfdehaaGreatDoor.Fr (frontR frontOf_impl frontR_len)
open Go.Proofs.YtjdlgpnhkfdehaaGreatDoor.Ze (zerosR zerosOf_impl)
open Go.Proofs.YtjdlgpnhkfdehaaGreatDoor.Se (sealV seal_impl)
theorem ints_keep {w w' : World} {a : Option Addr} {l : List Int} (h : Ints w w.heap.size a l) (hb : Below w.heap.size w w') : Ints w' w'.heap.size a l := (h.below hb).mono hb.size
theorem lt_blk {w : World} {g : Nat} {x : Obj} (h : w.heap[g]? = some x) : g < w.heap.size := (Array.getElem?_eq_some_iff.1 h).1
theorem blk_keep {w w' : World} {g : Nat} {x : Obj} (h : w.heap[g]? = some x) (hb : Below w.heap.size w w') : w'.heap[g]? = some x := (hb.block g (lt_blk h)).trans h
theorem low_keep {w0 w w' : World} (h : Below w0.heap.size w0 w) (hb : Below w.heap.size w w') : Below w0.heap.size w0 w' := h.trans (hb.mono h.size)
theorem ints_four {W : World} {g : Nat} {a b c d : Int} {t : TypeId} (h : W.heap[g]? = some (.cells #[.int .i64 a, .int .i64 b, .int .i64 c, .int .i64 d] t (0, 0))) : Ints W W.heap.size (some ⟨g, 0, none⟩) [a, b, c, d] :=
 .inr ⟨g, 0, rfl, lt_blk h, fun j hj => by
  rw [Nat.zero_add, cell_of_row W g j _ _ _ h]
  match j, hj with
  | 0, _ => rfl
  | 1, _ => rfl
  | 2, _ => rfl
  | 3, _ => rfl⟩
theorem strs_four {W : World} {g : Nat} {a b c d : ByteArray} {t : TypeId} (h : W.heap[g]? = some (.cells #[.string a, .string b, .string c, .string d] t (0, 0))) : Strs W W.heap.size (some ⟨g, 0, none⟩) [a, b, c, d] :=
 .inr ⟨g, 0, rfl, lt_blk h, fun j hj => by
  rw [Nat.zero_add, cell_of_row W g j _ _ _ h]
  match j, hj with
  | 0, _ => rfl
  | 1, _ => rfl
  | 2, _ => rfl
  | 3, _ => rfl⟩
theorem strs_two {W : World} {g : Nat} {a b : ByteArray} {t : TypeId} (h : W.heap[g]? = some (.cells #[.string a, .string b] t (0, 0))) : Strs W W.heap.size (some ⟨g, 0, none⟩) [a, b] :=
 .inr ⟨g, 0, rfl, lt_blk h, fun j hj => by
  rw [Nat.zero_add, cell_of_row W g j _ _ _ h]
  match j, hj with
  | 0, _ => rfl
  | 1, _ => rfl⟩
theorem cat_two (b : ByteArray) : cat [⟨#[0]⟩, b] = 0 :: b.data.toList := by
 unfold cat
 simp
theorem cat_short (b : ByteArray) : cat [⟨#[1]⟩, ⟨(numsL (headS b)).toArray⟩, ⟨(numsL (rowT (lenS b) 257)).toArray⟩, bitsS b] = shortL b := by
 unfold cat shortL
 simp
theorem packR_size (t : ByteArray) (h : t.size ≤ 4800) : (packR t).size ≤ 4800 := by
 unfold packR
 split
 ·decide
 ·unfold Bi.packV
  rw [Sh.strF_size]
  omega
theorem bitsS_size (b : ByteArray) : (bitsS b).size ≤ 4800 := packR_size _ (bits_size b)
theorem bwtA_le (b : ByteArray) (h : b.size ≤ 48) : bwtA b ≤ 48 := by
 unfold bwtA
 rw [if_pos h]
 exact Nat.le_trans (So.atK_le _ _) h
theorem headS_mem (b : ByteArray) (h : b.size ≤ 48) : ∀ x ∈ headS b, -9223372036854775808 ≤ x ∧ x ≤ 9223372036854775807 := by
 have h1 := bwtA_le b h
 have h2 := symS_len b
 have h3 := Bi.above_le (up (lenS b))
 rw [up_length, (lenS_facts b).1] at h3
 intro x hx
 unfold headS at hx
 simp only [List.mem_cons, List.not_mem_nil, or_false] at hx
 omega
theorem shortL_le (b : ByteArray) : (shortL b).length ≤ 20000 := by
 have h1 := numsL_le (headS b)
 have h2 := numsL_le (rowT (lenS b) 257)
 have h3 := rowT_length (lenS b) 257
 have h4 := bitsS_size b
 have h5 : (bitsS b).data.toList.length = (bitsS b).size := by simp
 have h6 : (headS b).length = 4 := rfl
 unfold shortL
 rw [List.length_append, List.length_append, List.length_append]
 simp only [List.length_cons, List.length_nil]
 omega
set_option maxRecDepth 100000 in
set_option maxHeartbeats 2000000 in
theorem short_impl (b : ByteArray) (w : World) (hb : b.size ≤ 48) :
  Calls Tryz.prog 57 #[.string b] w fun e w' => e = .returned (.string (shortV b)) ∧ Below w.heap.size w w' := by
 obtain ⟨hf1, hf2, _, _⟩ := lenS_facts b
 have HSM := hideP (symS_mem b)
 have hsl := symS_len b
 have C1 : Hid (∀ W, Calls Tryz.prog 105 #[.string b] W fun e w' => e = .returned (.agg #[.string (bwtT b), .int .i64 (bwtA b : Nat), .int .i64 (bwtC b : Nat)]) ∧ Below W.heap.size W w') := fun W => bwt_impl b W (by omega)
 have C2 : Hid (∀ W, Calls Tryz.prog 107 #[.string (bwtT b)] W fun e w' => ∃ v, e = .returned v ∧ OwnI w' W.heap.size v (frontR (bwtT b).data.toList) ∧ Below W.heap.size W w') := fun W => frontOf_impl (bwtT b) W (by
  have : (bwtT b).size ≤ 48 := by
   by_cases h : b.size ≤ 48
   ·unfold bwtT
    rw [if_pos h, Sh.strF_size]
    exact h
   ·omega
  omega)
 have C3 : Hid (∀ W base v, OwnI W base v (frontR (bwtT b).data.toList) → Calls Tryz.prog 106 #[v] W fun e w' => ∃ v, e = .returned v ∧ OwnI w' W.heap.size v (symS b) ∧ Below W.heap.size W w') := fun W base v h => by
  obtain ⟨x, c, rfl, _, hi⟩ := h.ints
  exact zerosOf_impl _ x c W.heap.size W hi (Nat.le_refl _) (by have := frontR_len (bwtT b).data.toList; omega)
 obtain ⟨n, hn⟩ : ∃ n, n = (symS b).length := ⟨_, rfl⟩
 have HN := hideP hn
 have C4 : Hid (∀ W x c, Ints W W.heap.size x (symS b) → Calls Tryz.prog 109 #[.slice x n c] W fun e w' => e = .returned (.slice (some ⟨W.heap.size, 0, none⟩) 257 257) ∧ Ints w' w'.heap.size (some ⟨W.heap.size, 0, none⟩) (up (countsN (symS b))) ∧ Below W.heap.size W w') := fun W x c h => by
  refine (counts_impl (symS b) x c n W h hn.symm (by omega) HSM.out).mono ?_
  rintro e w' ⟨rfl, hi, hb⟩
  exact ⟨rfl, hi.ints hi.lt, hb⟩
 have C5 : Hid (∀ W x c, Ints W W.heap.size x (up (countsN (symS b))) → Calls Tryz.prog 108 #[.slice x 257 c] W fun e w' => ∃ a c', e = .returned (.slice a 257 c') ∧ Ints w' w'.heap.size a (up (lenS b)) ∧ Below W.heap.size W w') := fun W x c h => by
  have := Hf.lengths_impl x c (up (countsN (symS b))) W h (by rw [up_length, countsN_length]; decide)
  rw [up_length, countsN_length, lens_counts] at this
  refine this.mono ?_
  rintro e w' ⟨v, rfl, ho, hb⟩
  obtain ⟨a, c', rfl, _, hi⟩ := ho.ints
  rw [up_length, hf1]
  exact ⟨a, c', rfl, hi, hb⟩
 have C6 : Hid (∀ W x c, Ints W W.heap.size x (up (lenS b)) → Calls Tryz.prog 110 #[.slice x 257 c] W fun e w' => e = .returned (.int .i64 (above (up (lenS b)) : Nat)) ∧ w' = W) := fun W x c h => by
  have := Bi.count_impl (up (lenS b)) x c W.heap.size W h (by rw [up_length, hf1]; decide)
  rw [up_length, hf1] at this
  exact this
 have C7 : Hid (∀ W x c y d, Ints W W.heap.size x (up (lenS b)) → Ints W W.heap.size y (symS b) → Calls Tryz.prog 112 #[.slice x 257 c, .slice y n d] W fun e w' => e = .returned (.string (putR (up (lenS b)) (symS b))) ∧ Below W.heap.size W w') := fun W x c y d h1 h2 => by
  have := Bi.put_impl (up (lenS b)) (symS b) x y c d W h1 h2 (by rw [up_length, hf1]; decide) (by omega)
  rw [up_length, hf1, ← hn] at this
  exact this
 have C8 : Hid (∀ W, Calls Tryz.prog 111 #[.string (putR (up (lenS b)) (symS b))] W fun e w' => e = .returned (.string (bitsS b)) ∧ Below W.heap.size W w') := fun W => Bi.pack_impl _ W (by have := bits_size b; omega)
 have C9 : Hid (∀ W g t, W.heap[g]? = some (.cells #[.int .i64 (b.size : Nat), .int .i64 (bwtA b : Nat), .int .i64 n, .int .i64 (above (up (lenS b)) : Nat)] t (0, 0)) → Calls Tryz.prog 76 #[.slice (some ⟨g, 0, none⟩) 4 4] W fun e w' => e = .returned (.string ⟨(numsL (headS b)).toArray⟩) ∧ Below W.heap.size W w') := fun W g t h => by
  have h' := ints_four h
  rw [hn] at h'
  exact nums_any (headS b) (some ⟨g, 0, none⟩) 4 4 W h' rfl (by decide) (headS_mem b hb)
 have C10 : Hid (∀ W x c, Ints W W.heap.size x (up (lenS b)) → Calls Tryz.prog 113 #[.slice x 257 c] W fun e w' => e = .returned (.string ⟨(numsL (rowT (lenS b) 257)).toArray⟩) ∧ Below W.heap.size W w') := fun W x c h => table_impl (lenS b) x c 257 W h hf1 (by decide) hf2
 have C11 : Hid (∀ W g t, W.heap[g]? = some (.cells #[.string ⟨#[1]⟩, .string ⟨(numsL (headS b)).toArray⟩, .string ⟨(numsL (rowT (lenS b) 257)).toArray⟩, .string (bitsS b)] t (0, 0)) → Calls Tryz.prog 56 #[.slice (some ⟨g, 0, none⟩) 4 4] W fun e w' => e = .returned (.string (shortV b)) ∧ Below W.heap.size W w') := fun W g t h => by
  have := join_any _ (some ⟨g, 0, none⟩) 4 4 W (strs_four h) rfl (by decide) (by rw [cat_short]; have := shortL_le b; omega)
  rw [cat_short] at this
  exact this
 rw [← hn] at hsl
 have hn' := hn
 clear hn hn' hf1 hf2 HSM
 generalize bwtC b = kC at C1
 generalize shortV b = R at C11 ⊢
 generalize (⟨(numsL (headS b)).toArray⟩ : ByteArray) = T1 at C9 C11
 generalize (⟨(numsL (rowT (lenS b) 257)).toArray⟩ : ByteArray) = T2 at C10 C11
 generalize bitsS b = T3 at C8 C11
 generalize putR (up (lenS b)) (symS b) = T0 at C7 C8
 generalize above (up (lenS b)) = kV at C6 C9
 generalize bwtA b = kA at C1 C9
 generalize bwtT b = kT at C1 C2 C3
 go_enter Tryz.func57, Tryz.ntmps57
 go_wp2_with fail
 refine (C1.out _).mono ?_
 rintro e w1 ⟨rfl, hb1⟩
 have B1 := hideP hb1
 clear hb1
 go_wp2_with fail
 have X2 : Hid ((w1.alloc (.cells #[.string kT, .int .i64 (kA : Nat), .int .i64 (kC : Nat)] 115)).heap[w1.heap.size]? = some (.cells #[.string kT, .int .i64 (kA : Nat), .int .i64 (kC : Nat)] 115 (0, 0))) := heap_alloc_new w1 _
 have B2 := hideP (B1.out.alloc B1.out.size (.cells #[.string kT, .int .i64 (kA : Nat), .int .i64 (kC : Nat)] 115))
 generalize w1.alloc (.cells #[.string kT, .int .i64 (kA : Nat), .int .i64 (kC : Nat)] 115) = w2 at X2 B2 ⊢
 generalize w1.heap.size = gx at X2 ⊢
 clear B1
 refine (C2.out _).mono ?_
 rintro e w3 ⟨v3, rfl, ho3, hb3⟩
 have X3 := hideP (blk_keep X2.out hb3)
 have B3 := hideP (low_keep B2.out hb3)
 have O3 := hideP ho3
 clear ho3 hb3 X2 B2
 go_wp2_with fail
 refine (C3.out _ _ _ O3.out).mono ?_
 rintro e w4 ⟨v4, rfl, ho4, hb4⟩
 have X4 := hideP (blk_keep X3.out hb4)
 have B4 := hideP (low_keep B3.out hb4)
 obtain ⟨ay, cy, hv4, _, hi4⟩ := ho4.ints
 rw [← HN.out] at hv4
 subst hv4
 have Y4 := hideP hi4
 clear ho4 hb4 X3 B3 O3 hi4
 go_wp2_with fail
 refine (C4.out _ _ _ Y4.out).mono ?_
 rintro e w5 ⟨rfl, hi5, hb5⟩
 have X5 := hideP (blk_keep X4.out hb5)
 have B5 := hideP (low_keep B4.out hb5)
 have Y5 := hideP (ints_keep Y4.out hb5)
 have Z5 := hideP hi5
 clear hi5 hb5 X4 B4 Y4
 go_wp2_with fail
 refine (C5.out _ _ _ Z5.out).mono ?_
 rintro e w6 ⟨az, cz, rfl, hi6, hb6⟩
 have X6 := hideP (blk_keep X5.out hb6)
 have B6 := hideP (low_keep B5.out hb6)
 have Y6 := hideP (ints_keep Y5.out hb6)
 have Z6 := hideP hi6
 clear hi6 hb6 X5 B5 Y5 Z5
 have K0 : Hid (Below w6.heap.size w6 w6.drew) := (Below.refl _ _).drew
 have CX : Hid (∀ W, Below w6.heap.size w6 W → W.cell? ⟨gx, 1, none⟩ = some (.int .i64 (kA : Nat))) := fun W h => cell_of_row W gx 1 _ _ _ (blk_keep X6.out h)
 go_upto_region 4 with fail
 go_cut [6] from 17 to 25 (fun s6 wx => ∃ g : Nat, s6 = .pointer (some ⟨g, 0, none⟩) ∧ wx.heap[g]? = some (.cells #[.int .i64 (b.size : Nat), .int .i64 (kA : Nat), .int .i64 n, .int .i64 (kV : Nat)] 120 (0, 0)) ∧ Below w6.heap.size w6 wx)
 case first =>
  have hS0 := CX.out _ K0.out
  have KA : Hid (∀ o, Below w6.heap.size w6 (w6.drew.alloc o)) := fun o => (Below.refl _ _).drew.alloc (Nat.le_refl _) o
  have KB : Hid (∀ o, Below w6.heap.size w6 (w6.alloc o).drew) := fun o => ((Below.refl _ _).alloc (Nat.le_refl _) o).drew
  go_region_held3 (fun W => W.cell? ⟨gx, 1, none⟩ = some (.int .i64 (kA : Nat))) (first | assumption | exact CX.out _ (KB.out _) | exact CX.out _ (KA.out _)) (first | (go_at_call 110; (with_reducible refine (C6.out _ _ _ ?_).mono ?_); (· first | exact ints_keep Z6.out K0.out | exact ints_keep Z6.out (KB.out _) | exact ints_keep Z6.out (KA.out _)); rintro e w7 ⟨rfl, hw7⟩; subst w7))
  all_goals (try go_wp2_with fail)
  all_goals (go_meet; exact ⟨w6.heap.size, rfl, heap_alloc_new w6 _, KB.out _⟩)
 case rest =>
  obtain ⟨g, rfl, hr, hbc⟩ := hcut
  have G0 := hideP hr
  have Y0 := hideP (ints_keep Y6.out hbc)
  have Z0 := hideP (ints_keep Z6.out hbc)
  have B0 := hideP (low_keep B6.out hbc)
  clear hr hbc CX X6 Y6 Z6 B6 K0
  go_wp2_with fail
  refine (C7.out _ _ _ _ _ Z0.out Y0.out).mono ?_
  rintro e w8 ⟨rfl, hb8⟩
  have G8 := hideP (blk_keep G0.out hb8)
  have Z8 := hideP (ints_keep Z0.out hb8)
  have B8 := hideP (low_keep B0.out hb8)
  clear hb8 G0 Y0 Z0 B0
  go_wp2_with fail
  refine (C8.out _).mono ?_
  rintro e w9 ⟨rfl, hb9⟩
  have G9 := hideP (blk_keep G8.out hb9)
  have Z9 := hideP (ints_keep Z8.out hb9)
  have B9 := hideP (low_keep B8.out hb9)
  clear hb9 G8 Z8 B8
  go_wp2_with fail
  refine (C9.out _ _ _ G9.out).mono ?_
  rintro e w10 ⟨rfl, hb10⟩
  have Z10 := hideP (ints_keep Z9.out hb10)
  have B10 := hideP (low_keep B9.out hb10)
  clear hb10 G9 Z9 B9
  go_wp2_with fail
  refine (C10.out _ _ _ Z10.out).mono ?_
  rintro e w11 ⟨rfl, hb11⟩
  have B11 := hideP (low_keep B10.out hb11)
  clear hb11 Z10 B10
  go_wp2_with fail
  have H12 : Hid ((w11.alloc (.cells #[.string ⟨#[1]⟩, .string T1, .string T2, .string T3] 9)).heap[w11.heap.size]? = some (.cells #[.string ⟨#[1]⟩, .string T1, .string T2, .string T3] 9 (0, 0))) := heap_alloc_new w11 _
  have B12 := hideP (B11.out.alloc B11.out.size (.cells #[.string ⟨#[1]⟩, .string T1, .string T2, .string T3] 9))
  refine (C11.out _ _ _ H12.out).mono ?_
  rintro e w13 ⟨rfl, hb13⟩
  have B13 := hideP (low_keep B12.out hb13)
  clear hb13
  go_wp2_with fail
  go_ret
  exact ⟨rfl, B13.out⟩
set_option maxRecDepth 100000 in
set_option maxHeartbeats 1000000 in
theorem pack_impl (b : ByteArray) (w : World) (hb : b.size ≤ 1048576) :
  Calls Tryz.prog 10 #[.string b] w fun e w' => e = .returned (.string (packB b)) ∧ Below w.heap.size w w' := by
 by_cases h48 : 48 < b.size
 ·have HR : Hid (packB b = ⟨#[]⟩) := if_pos h48
  have h48' : (48 : Int) < (b.size : Int) := by omega
  rw [HR.out]
  go_enter Tryz.func10, Tryz.ntmps10
  go_wp2_with fail
  go_ret
  exact ⟨rfl, Below.refl _ _⟩
 ·have HR : Hid (packB b = sealV (innerV b)) := if_neg h48
  have h48' : decide ((48 : Int) < (b.size : Int)) = false := by simp; omega
  have HS := hideP (fun W => short_impl b W (by omega))
  have HP : Hid (∀ W g t, W.heap[g]? = some (.cells #[.string ⟨#[0]⟩, .string b] t (0, 0)) → Calls Tryz.prog 56 #[.slice (some ⟨g, 0, none⟩) 2 2] W fun e w' => e = .returned (.string (plainV b)) ∧ Below W.heap.size W w') := fun W g t h => by
   have := join_any _ (some ⟨g, 0, none⟩) 2 2 W (strs_two h) rfl (by decide) (by rw [cat_two]; simp; omega)
   rw [cat_two] at this
   exact this
  have hps := plainV_size b
  have hss : (shortV b).size ≤ 20000 := by
   have := shortL_le b
   show (shortL b).toArray.size ≤ 20000
   rw [List.size_toArray]
   exact this
  have HSE := hideP (fun (t : ByteArray) (W : World) (h : t.size ≤ 20000) => seal_impl t W (by unfold maxLen; omega))
  have HIN : Hid (innerV b = if (shortV b).size < (plainV b).size then shortV b else plainV b) := by
   unfold Hid innerV
   rw [hps]
  rw [HR.out, HIN.out]
  clear HR HIN
  generalize shortV b = S at HS hss ⊢
  generalize plainV b = P at HP hps ⊢
  have hpz : P.size ≤ 49 := by omega
  clear hps
  by_cases hlt : S.size < P.size
  ·have hlt' : (S.size : Int) < (P.size : Int) := by omega
   rw [if_pos hlt]
   have HSE1 := hideP (fun W => HSE.out S W hss)
   generalize sealV S = R at HSE1 ⊢
   go_enter Tryz.func10, Tryz.ntmps10
   go_wp2_with fail
   have H1 : Hid ((w.alloc (.cells #[.string ⟨#[0]⟩, .string b] 9)).heap[w.heap.size]? = some (.cells #[.string ⟨#[0]⟩, .string b] 9 (0, 0))) := heap_alloc_new w _
   have B1 := hideP ((Below.refl w.heap.size w).alloc (Nat.le_refl _) (.cells #[.string ⟨#[0]⟩, .string b] 9))
   refine (HP.out _ _ _ H1.out).mono ?_
   rintro e w2 ⟨rfl, hb2⟩
   have B2 := hideP (low_keep B1.out hb2)
   clear hb2 H1 B1
   go_wp2_with fail
   refine (HS.out _).mono ?_
   rintro e w3 ⟨rfl, hb3⟩
   have B3 := hideP (low_keep B2.out hb3)
   clear hb3 B2
   go_wp2_with fail
   refine (HSE1.out _).mono ?_
   rintro e w4 ⟨rfl, hb4⟩
   have B4 := hideP (low_keep B3.out hb4)
   clear hb4
   go_wp2_with fail
   go_ret
   exact ⟨rfl, B4.out⟩
  ·have hlt' : decide ((S.size : Int) < (P.size : Int)) = false := by simp; omega
   rw [if_neg hlt]
   have HSE1 := hideP (fun W => HSE.out P W (by omega))
   generalize sealV P = R at HSE1 ⊢
   go_enter Tryz.func10, Tryz.ntmps10
   go_wp2_with fail
   have H1 : Hid ((w.alloc (.cells #[.string ⟨#[0]⟩, .string b] 9)).heap[w.heap.size]? = some (.cells #[.string ⟨#[0]⟩, .string b] 9 (0, 0))) := heap_alloc_new w _
   have B1 := hideP ((Below.refl w.heap.size w).alloc (Nat.le_refl _) (.cells #[.string ⟨#[0]⟩, .string b] 9))
   refine (HP.out _ _ _ H1.out).mono ?_
   rintro e w2 ⟨rfl, hb2⟩
   have B2 := hideP (low_keep B1.out hb2)
   clear hb2 H1 B1
   go_wp2_with fail
   refine (HS.out _).mono ?_
   rintro e w3 ⟨rfl, hb3⟩
   have B3 := hideP (low_keep B2.out hb3)
   clear hb3 B2
   go_wp2_with fail
   refine (HSE1.out _).mono ?_
   rintro e w4 ⟨rfl, hb4⟩
   have B4 := hideP (low_keep B3.out hb4)
   clear hb4
   go_wp2_with fail
   go_ret
   exact ⟨rfl, B4.out⟩
end Go.Proofs.YtjdlgpnhkfdehaaGreatDoor.Pk


/- The walks of the specification's CodePut, and of the law. -/
namespace Go.Proofs.YtjdlgpnhkfdehaaGreatDoor.Bi
open Go.RowKit
open Go.Proofs.YtjdlgpnhkfdehaaGreatDoor.In (Ints)
open Go.Proofs.YtjdlgpnhkfdehaaGreatDoor.St (IsS)
open Go.Proofs.YtjdlgpnhkfdehaaGreatDoor.Nu (ret_strJ own_string bv)
theorem own_lenB {w : World} {B m n : Nat} {e : TypeId} {v : Value} {xs : List Value} (h : w.ownsRow B e 1 v m xs) (hm : m = n) : w.ownsRow B e 1 v n xs := by rw [← hm]; exact h
set_option maxRecDepth 100000 in
set_option maxHeartbeats 4000000 in
theorem l04Put_any (l s : List Int) (a a' : Option Addr) (cap cap' : Nat) (w : World) (hl : Ints w w.heap.size a l) (hs : Ints w w.heap.size a' s) (hm : ¬ 400 < s.length) (hw : whole l = true) (hok : ∀ x ∈ s, okS l x) :
    Calls Tryz.prog 174 #[.slice a l.length cap, .slice a' s.length cap'] w fun e w' => e = .returned (.string ⟨(putL l s).toArray⟩) ∧ Below w.heap.size w w' := by
  obtain ⟨i0, hi0, hz0, hz1, hz2⟩ := info_parts Sb.builderX.infoByte
  have HC := hideB (codes_spec l a cap w.heap.size w hl (Nat.le_refl _) (whole_right hw))
  have HS := hideB hs
  have HK := hideB (whole_ok hw)
  have hn := whole_len hw
  have HCL := hideB (codesV_length l)
  have HOK := hideB (fun (j : Nat) (hj : j < s.length) => hok _ (List.getElem_mem hj))
  clear hl hs hw hok
  obtain ⟨n, hln⟩ : ∃ n, n = l.length := ⟨_, rfl⟩
  obtain ⟨m, hms⟩ : ∃ m, m = s.length := ⟨_, rfl⟩
  have HLN := hideB hln
  have HMS := hideB hms
  rw [← hln] at hn HC HCL ⊢
  rw [← hms] at hm ⊢
  clear hln hms
  go_enter Tryz.func174, Tryz.ntmps174
  go_wp2_with fail
  refine HC.out.mono ?_
  rintro e w1 ⟨rfl, hi1, hb1⟩
  have X1 := hideB hi1
  have B1 := hideB hb1
  have z1 : w.heap.size < w1.heap.size := hi1.lt
  clear hi1 hb1
  go_wp2_with fail
  go_loopw [7, 6] (fun i v wr => ∃ k : Nat, i = .int .i64 k ∧ k ≤ m ∧ wr.ownsRow w1.heap.size 5 1 v (putL l (s.take k)).length (Lib.byteCells (putL l (s.take k))) ∧ Below w1.heap.size w1 wr) (fun i _ _ => m - (intOf i).toNat)
  case atStart => exact ⟨0, rfl, Nat.zero_le _, World.ownsRow_made _ _ _ (Nat.le_refl _) (by decide) rfl, (Below.refl _ _).alloc (Nat.le_refl _) _⟩
  case round =>
    obtain ⟨k, rfl, hk, hown, hbel⟩ := hrel
    have HO := hideB hown
    have GB := hideB hbel
    have hbz := hbel.size
    clear hown hbel
    by_cases hlt : k < m
    · have hkl : k < s.length := by rw [← HMS.out]; exact hlt
      obtain ⟨b, off, rfl, hb, hc⟩ := (HS.out.below (B1.out.trans (GB.out.mono (Nat.le_of_lt z1)))).some (by omega)
      have ci := hc k hkl
      have HM := hideB (putL_more (l := l) hkl)
      have ho := HOK.out k hkl
      obtain ⟨x, hx⟩ : ∃ x, x = s[k] := ⟨_, rfl⟩
      rw [← hx] at ci HM ho
      clear hc hx
      obtain ⟨i, rfl⟩ : ∃ i : Nat, x = i := ⟨x.toNat, by have := ho.1; omega⟩
      have hin : i < n := by have h1 := ho.2.1; have h2 := HLN.out; omega
      have hiv : i < (codesV l).length := by rw [HCL.out]; omega
      have cc := (X1.out.below GB.out z1).cell hiv
      rw [codes_get l HK.out i hiv] at cc
      have hcl := codeOf_le l HK.out i
      obtain ⟨c, hcc⟩ : ∃ c, c = codeOf l i := ⟨_, rfl⟩
      have HCC := hideB hcc
      rw [← hcc] at cc hcl
      clear hcc ho
      obtain ⟨q, hq⟩ : ∃ q, q = (putL l (s.take k)).length := ⟨_, rfl⟩
      have hqb : q ≤ 4800 := by
        have h1 := putL_le l HK.out (s.take k)
        rw [List.length_take] at h1
        omega
      have HNX : Hid (Lib.byteCells (putL l (s.take k)) ++ Lib.strCells c = Lib.byteCells (putL l (s.take (k + 1)))) := by
        unfold Hid
        rw [HM.out, Lib.byteCells_append, Lib.strCells_eq, HCC.out]
        rfl
      have HNL : Hid (q + c.size = (putL l (s.take (k + 1))).length) := by
        unfold Hid
        rw [HM.out, List.length_append, hq, HCC.out]
        rfl
      have hown := HO.out
      rw [← hq] at hown
      clear hq
      go_wp2_with (at_builtin; refine Lib.wpList_append_own_string _ rfl _ _ 22 9 rfl w1.heap.size 5 i0 Tryz.underlying22 Tryz.underlying9 hi0 hz0 hz1 hz2 _ _ _ rfl hown c rfl ?c3 ?c4 ?c5 ?_)
      case c3 => unfold maxLen; omega
      case c4 => omega
      case c5 => omega
      intro v' w2 hown' hgrow _
      rw [HNX.out] at hown'
      have R2 := hideB (own_lenB hown' HNL.out)
      have B2 := hideB (GB.out.grown hgrow (by omega) (fun k hk => (hown.lt k hk).1))
      clear hown' hgrow hown
      go_wp2_with fail
      go_roundw
      case rel => exact ⟨k + 1, by go_num, by omega, R2.out, B2.out⟩
      case measure => simp [intOf]; omega
    · have HE : Hid (putL l (s.take k) = putL l s) := by
        unfold Hid
        rw [List.take_of_length_le (by have := HMS.out; omega)]
      have hcv := own_string (P := Tryz.prog) (src := 22) (dst := 9) (putL l (s.take k)) HO.out Tryz.underlying22 Tryz.underlying5 Tryz.underlying9
      rw [HE.out] at hcv
      go_wp2_with fail
      go_ret
      exact ⟨rfl, B1.out.trans (GB.out.mono (Nat.le_of_lt z1))⟩
end Go.Proofs.YtjdlgpnhkfdehaaGreatDoor.Bi


/- The walk of the specification's BitsPack, and of the law. -/
namespace Go.Proofs.YtjdlgpnhkfdehaaGreatDoor.Bi
open Go.RowKit
open Go.Proofs.YtjdlgpnhkfdehaaGreatDoor.Sh
open Go.Proofs.YtjdlgpnhkfdehaaGreatDoor.Nu (ret_strJ bv own_string app_below)
def pkL (t : ByteArray) (q : Nat) : List UInt8 := (List.range q).map fun j => UInt8.ofNat (pk t j 8)
theorem pkL_length (t : ByteArray) (q : Nat) : (pkL t q).length = q := by simp [pkL]
theorem pkL_next (t : ByteArray) (q : Nat) : pkL t (q + 1) = pkL t q ++ [UInt8.ofNat (pk t q 8)] := by simp [pkL, List.range_succ]
theorem pkL_all (t : ByteArray) : (⟨(pkL t ((t.size + 7) / 8)).toArray⟩ : ByteArray) = packV t := rfl
theorem pkL_row {w : World} {B q : Nat} {e : TypeId} {v : Value} {t : ByteArray} {h : Nat} (hh : h = pk t q 8) (hr : w.ownsRow B e 1 v (q + 1) ((pkL t q).map bv ++ [.int .u8 (h : Int)])) :
  w.ownsRow B e 1 v (q + 1) ((pkL t (q + 1)).map bv) := by
 rw [pkL_next, List.map_append, List.map_singleton]
 have : bv (UInt8.ofNat (pk t q 8)) = .int .u8 (h : Int) := by
  have := pk_lt t q 8 (Nat.le_refl _)
  unfold bv
  rw [UInt8.toNat_ofNat', Nat.mod_eq_of_lt (by omega), hh]
 rw [this]
 exact hr
theorem own_len {w : World} {B m n : Nat} {e : TypeId} {v : Value} {xs : List Value} (h : w.ownsRow B e 1 v m xs) (hm : m = n) : w.ownsRow B e 1 v n xs := by rw [← hm]; exact h
set_option maxRecDepth 100000 in
set_option maxHeartbeats 2000000 in
theorem packS_yes (t : ByteArray) (w : World) (ht : ¬ 8000 < t.size) (hg : good t = true) :
    Calls Tryz.prog 175 #[.string t] w fun e w' => e = .returned (.string (packV t)) ∧ Below w.heap.size w w' := by
  obtain ⟨i0, hi, hz0, hz1, hz2⟩ := info_parts Nu.Tryz.infoJ5
  have HG := hideB (good_spec t w (by omega))
  rw [hg] at HG
  have HA := hideB (good_yes hg)
  have hd8 : decide (8000 < (t.size : Int)) = false := decide_eq_false (by omega)
  clear hg
  go_enter Tryz.func175, Tryz.ntmps175
  go_wp2_with fail
  refine HG.out.mono ?_
  rintro e w' ⟨rfl, hw⟩
  subst w'
  go_wp2_with fail
  go_loopw [4, 3] (fun i v wr => ∃ q : Nat, i = .int .i64 (8 * (q : Int)) ∧ 8 * q ≤ t.size + 7 ∧ wr.ownsRow w.heap.size 5 1 v q ((pkL t q).map bv) ∧ Below w.heap.size w wr) (fun i _ _ => t.size + 8 - (intOf i).toNat)
  case atStart => exact ⟨0, rfl, by omega, World.ownsRow_made _ _ _ (Nat.le_refl _) (by decide) rfl, (Below.refl _ _).alloc (Nat.le_refl _) _⟩
  case round =>
    obtain ⟨q, rfl, hq, hown, hbel⟩ := hrel
    have HO := hideB hown
    have GB := hideB hbel
    clear hown hbel
    by_cases hlt : 8 * q < t.size
    · have hlt' : 8 * (q : Int) < t.size := by omega
      go_wp2_with fail
      go_loopw [6, 5] (fun i v wr2 => ∃ r h : Nat, i = .int .i64 (8 * (q : Int) + r) ∧ v = .int .i64 h ∧ h = hd t q r ∧ r ≤ 8 ∧ wr2 = wr) (fun i _ _ => 8 * q + 8 - (intOf i).toNat)
      case atStart => exact ⟨0, 0, by go_num, rfl, rfl, by omega, rfl⟩
      case round =>
        obtain ⟨r, h, rfl, rfl, hh, hr, hw⟩ := hrel
        subst hw
        have HH := hideB hh
        have hle : h < 256 := by rw [hh]; exact hd_le t q r hr
        clear hh
        by_cases hr8 : r < 8
        · by_cases hin : 8 * q + r < t.size
          · obtain ⟨i, hii⟩ : ∃ i : Nat, i = 8 * q + r := ⟨_, rfl⟩
            have hiz : 8 * (q : Int) + r = i := by omega
            have hib : i < t.size := by omega
            obtain ⟨y, b0, hy⟩ := byte_at t i hib
            have h01 := HA.out i (by omega)
            rw [← hy] at h01
            have h02 : (48 : Int) ≤ y.toNat ∧ (y.toNat : Int) ≤ 49 := by omega
            have HN : Hid (2 * (h : Int) + ((y.toNat : Int) - 48) = ((hd t q (r + 1) : Nat) : Int)) := by
              unfold Hid
              simp only [hd]
              rw [← HH.out, ← hii]
              unfold one
              by_cases e : bt t i = 49
              · rw [if_pos ⟨by omega, e⟩]
                omega
              · rw [if_neg (fun x => e x.2)]
                omega
            have HI := hideB hii
            clear hy h01 hii
            rw [hiz]
            have hi8 : (i : Int) < 8 * (q : Int) + 8 := by omega
            have hit : (i : Int) < t.size := by omega
            go_wp2_with fail
            go_roundw
            case rel => exact ⟨r + 1, hd t q (r + 1), by go_num, by rw [← HN.out], rfl, by omega, trivial⟩
            case measure => simp [intOf]; omega
          · have HN : Hid (2 * (h : Int) = ((hd t q (r + 1) : Nat) : Int)) := by
              unfold Hid
              simp only [hd]
              rw [← HH.out, one_behind t _ (by omega)]
              omega
            have hit : ¬ 8 * (q : Int) + r < t.size := by omega
            go_wp2_with fail
            go_roundw
            case rel => exact ⟨r + 1, hd t q (r + 1), by go_num, by rw [← HN.out], rfl, by omega, trivial⟩
            case measure => simp [intOf]; omega
        · have HE : Hid (h = pk t q 8) := by
            unfold Hid
            rw [HH.out, show r = 8 by omega, hd_all]
          have hge : ¬ 8 * (q : Int) + r < 8 * (q : Int) + 8 := by omega
          have hown := HO.out
          have hbz := GB.out.size
          go_wp2_with (at_builtin; refine wpList_append_own _ rfl (.tmp 42) (.tmp 45) 22 rfl w.heap.size 5 i0 (.int .u8 0) 1 1 Tryz.underlying22 hi hz0 hz1 hz2 rfl (by decide) _ _ _ rfl (hown.alloc _) ⟨wr.heap.size, 0, none⟩ 1 1 [.int .u8 (h : Int)] rfl rfl ?c1 ?c2 ?c3 ?c4 ?c5 ?_)
          case c2 => rfl
          case c3 => unfold maxLen; omega
          case c4 => omega
          case c5 => omega
          intro v' w1 hown' hgrow _
          have H1 := hideB (app_below GB.out (Nat.le_refl _) HO.out hgrow)
          have R1 := hideB (pkL_row HE.out hown')
          clear hown' hgrow hown
          go_wp2_with fail
          go_roundw
          case rel => exact ⟨q + 1, by go_num, by omega, R1.out, H1.out⟩
          case measure => simp [intOf]; omega
    · have hlt' : ¬ 8 * (q : Int) < t.size := by omega
      have HQ : Hid (q = (t.size + 7) / 8) := by
        unfold Hid
        omega
      have hcv := own_string (P := Tryz.prog) (src := 22) (dst := 9) (pkL t q) (own_len HO.out (pkL_length t q).symm) Tryz.underlying22 Tryz.underlying5 Tryz.underlying9
      have HE : Hid ((⟨(pkL t q).toArray⟩ : ByteArray) = packV t) := by
        unfold Hid
        rw [HQ.out]
        exact pkL_all t
      rw [HE.out] at hcv
      go_wp2_with fail
      go_ret
      exact ⟨rfl, GB.out⟩
set_option maxHeartbeats 1000000 in
theorem pack_spec (t : ByteArray) (w : World) (ht : t.size ≤ 1048576) :
  Calls Tryz.prog 175 #[.string t] w fun e w' => e = .returned (.string (packR t)) ∧ Below w.heap.size w w' := by
 by_cases h : 8000 < t.size
 ·have HE := hideB (packR_no t (Or.inl h))
  go_enter Tryz.func175, Tryz.ntmps175
  go_wp2_with fail
  go_ret
  exact ⟨ret_strJ HE.out.symm, Below.refl _ _⟩
 ·cases hg : good t with
  | false =>
   have HE := hideB (packR_no t (Or.inr hg))
   have HG := hideB (good_spec t w (by omega))
   rw [hg] at HG
   go_enter Tryz.func175, Tryz.ntmps175
   go_wp2_with fail
   refine HG.out.mono ?_
   rintro e w' ⟨rfl, hw⟩
   subst w'
   go_wp2_with fail
   go_ret
   exact ⟨ret_strJ HE.out.symm, Below.refl _ _⟩
  | true =>
   rw [packR_yes t h hg]
   exact packS_yes t w h hg
end Go.Proofs.YtjdlgpnhkfdehaaGreatDoor.Bi

