/- Texts put together: FrontSpec, FrontB, BwtImpl, UnbImpl, UnbImpl2, BackWalks, UnBack. -/
import Derived.Test.YthbpenanelbbcaaGreatDoorBz36
import Derived.Test.YthbpenanelbbcaaGreatDoorBz14
import Derived.Test.YthbpenanelbbcaaGreatDoorBz22
import Derived.Test.YthbpenanelbbcaaGreatDoorBz30
import Derived.Test.YthbpenanelbbcaaGreatDoorBz32
import Derived.Deep.QuietTactic
import Derived.BigQuiet
/- The row of all bytes in memory: how the specification makes it, and brings a byte to its front. -/
namespace Go.Proofs.YthbpenanelbbcaaGreatDoor.Fr
open Go.RowKit
open Go.Proofs.YthbpenanelbbcaaGreatDoor.Sh (IsB rowF upd made_row)
open Go.Proofs.YthbpenanelbbcaaGreatDoor.Ze (hideZ)
open Go.Proofs.YthbpenanelbbcaaGreatDoor.St (Aft)
set_option maxRecDepth 100000 in
set_option maxHeartbeats 1000000 in
theorem row_spec (w : World) :
  Calls Tryz.prog 102 #[] w fun e w' => e = .returned (.slice (some ⟨w.heap.size, 0, none⟩) 256 256) ∧ IsB w' w.heap.size 5 .u8 256 row0 ∧ Below w.heap.size w w' := by
 obtain ⟨i0, hi, hz0, hz1, hz2⟩ := info_parts Nu.Tryz.infoJ5
 go_enter Tryz.func102, Tryz.ntmps102
 go_wp2_with (at_make; refine wpList_make_full _ rfl (.const (.int .i64 256)) (.const (.int .i64 256)) 22 rfl w.heap.size 5 i0 (.int .u8 0) 1 Tryz.underlying22 hi hz0 hz1 .i64 .i64 _ _ 256 rfl rfl (by simp) (by simp) (by rw [hz2]; omega) (by unfold maxLen; omega) (Nat.le_refl _) ?_; intro w1 hown1 hgrow1; have HR := hideZ (made_row hown1); have HB := hideZ ((Below.refl w.heap.size w).grown hgrow1 (Nat.le_refl _) (by simp)); clear hown1 hgrow1)
 go_loopw [2] (fun i wr => ∃ k : Nat, i = .int .i64 k ∧ k ≤ 256 ∧ IsB wr w.heap.size 5 .u8 256 (rise k) ∧ Below w.heap.size w wr) (fun i _ => 256 - (intOf i).toNat)
 case atStart => exact ⟨0, rfl, by omega, HR.out.congr (fun j _ => by unfold rise; rw [if_neg (by omega)]), HB.out⟩
 case round =>
  obtain ⟨k, rfl, hk, h1, hbel⟩ := hrel
  have G1 := hideZ h1
  have GB := hideZ hbel
  by_cases hlt : k < 256
  ·have ck := h1.cell (j := k) hlt
   have fk := h1.frozen k
   have hwr : ((k : Int)) % 256 = (k : Int) := by omega
   have HN := hideZ (h1.set k (k : Int))
   clear h1 hbel
   go_wp2_with fail
   go_roundw
   case rel => exact ⟨k + 1, by go_num, by omega, HN.out.congr (fun j _ => rise_next k j), GB.out.setCell (by simp) _⟩
   case measure => simp [intOf]; omega
  ·obtain rfl : k = 256 := by omega
   have G2 := hideZ (h1.congr (fun j hj => rise_all j hj))
   clear h1 hbel
   go_wp2_with fail
   go_ret
   exact ⟨rfl, G2.out, GB.out⟩
def downF (f : Nat → Int) (p k : Nat) : Nat → Int := fun j => if k < j ∧ j ≤ p then f (j - 1) else f j
theorem down_start (f : Nat → Int) (p j : Nat) : downF f p p j = f j := by
 unfold downF
 rw [if_neg (by omega)]
theorem down_next (f : Nat → Int) (p k j : Nat) (h : k + 1 ≤ p) : upd (downF f p (k + 1)) (k + 1) (f k) j = downF f p k j := by
 unfold upd downF
 by_cases e : j = k + 1
 ·subst e
  rw [if_pos rfl, if_pos (by omega)]
  rfl
 ·rw [if_neg e]
  by_cases h2 : k + 1 < j ∧ j ≤ p
  ·rw [if_pos h2, if_pos (by omega)]
  ·rw [if_neg h2, if_neg (by omega)]
theorem down_at (f : Nat → Int) (p k : Nat) : downF f p (k + 1) k = f k := by
 unfold downF
 rw [if_neg (by omega)]
theorem down_front (f : Nat → Int) (p j : Nat) : upd (downF f p 0) 0 (f p) j = front f p j := by
 unfold upd downF front
 by_cases h : j = 0
 ·rw [if_pos h, if_pos h]
 ·rw [if_neg h, if_neg h]
  by_cases h2 : j ≤ p
  ·rw [if_pos (by omega), if_pos h2]
  ·rw [if_neg (by omega), if_neg h2]
set_option maxRecDepth 100000 in
set_option maxHeartbeats 1000000 in
theorem front_spec (g p c : Nat) (t : TypeId) (f : Nat → Int) (w : World) (hb : IsB w g t .u8 256 f) (hp : p < 256) :
  Calls Tryz.prog 104 #[.slice (some ⟨g, 0, none⟩) 256 c, .int .i64 p] w fun e w' => e = .returned (.tuple #[]) ∧ IsB w' g t .u8 256 (front f p) ∧ Aft g w w' := by
 have c0 := hb.cell hp
 have HB := hideZ hb
 have HA := hideZ (Aft.refl g w)
 obtain ⟨x, hx⟩ : ∃ x, x = f p := ⟨_, rfl⟩
 have HX := hideZ hx
 rw [← hx] at c0
 clear hx hb
 go_enter Tryz.func104, Tryz.ntmps104
 go_wp2_with fail
 go_loopw [1] (fun i wr => ∃ k : Nat, i = .int .i64 k ∧ k ≤ p ∧ IsB wr g t .u8 256 (downF f p k) ∧ Aft g w wr) (fun i _ => (intOf i).toNat)
 case atStart => exact ⟨p, rfl, Nat.le_refl _, HB.out.congr (fun j _ => (down_start f p j).symm), HA.out⟩
 case round =>
  obtain ⟨k, rfl, hk, h1, ha⟩ := hrel
  have G1 := hideZ h1
  have GA := hideZ ha
  cases k with
  | zero =>
   have c1 := h1.cell (j := 0) (by omega)
   have f1 := h1.frozen 0
   have HF := hideZ (h1.set 0 x)
   clear h1 ha
   go_wp2_with fail
   refine bodyPost_end (v := .tuple #[]) (by simp [results, Tryz.results104, go_sem]) rfl ⟨rfl, HF.out.congr (fun j _ => ?_), GA.out.set 0 _⟩
   rw [HX.out]
   exact down_front f p j
  | succ k =>
   have c1 := h1.cell (j := k) (by omega)
   have c2 := h1.cell (j := k + 1) (by omega)
   have f1 := h1.frozen (k + 1)
   obtain ⟨y, hy⟩ : ∃ y, y = f k := ⟨_, rfl⟩
   rw [down_at, ← hy] at c1
   have HF : Hid (IsB (wr.setCell ⟨g, k + 1, none⟩ (.int .u8 y)) g t .u8 256 (downF f p k)) := by
    have := (h1.set (k + 1) y).congr (f' := downF f p k) (fun j _ => by rw [hy]; exact down_next f p k j hk)
    exact this
   have e1 : ((k + 1 : Nat) : Int) = (k : Int) + 1 := by omega
   have e2 : ((k : Int) + 1).toNat = k + 1 := by omega
   rw [e1]
   clear h1 ha hy e1
   go_wp2_with fail
   go_roundw
   case rel => exact ⟨k, by go_num, by omega, HF.out, GA.out.set (k + 1) _⟩
   case measure => simp [intOf]
end Go.Proofs.YthbpenanelbbcaaGreatDoor.Fr


/- What both FrontBack answer. -/
namespace Go.Proofs.YthbpenanelbbcaaGreatDoor.Fr
open Go.RowKit
open Go.Proofs.YthbpenanelbbcaaGreatDoor.Sh (IsB rowF upd made_row strF)
open Go.Proofs.YthbpenanelbbcaaGreatDoor.Ze (hideZ numsR upTo upTo_yes numsR_of numsR_long numsR_yes nums_spec)
open Go.Proofs.YthbpenanelbbcaaGreatDoor.Bi (upTo_impl)
open Go.Proofs.YthbpenanelbbcaaGreatDoor.St (Aft)
open Go.Proofs.YthbpenanelbbcaaGreatDoor.In (Ints)
open Go.Proofs.YthbpenanelbbcaaGreatDoor.Nu (ret_strJ bv own_string app_below)
def fillB (b : List UInt8) : Nat → Nat := fun j => (b.getD j 0).toNat
theorem fillB_lt (b : List UInt8) (j : Nat) : fillB b j < 256 := UInt8.toNat_lt _
theorem fillB_next (b : List UInt8) (k : Nat) (x : Int) (hk : b.length = k) (h0 : 0 ≤ x) (h1 : x < 256) (j : Nat) :
  upd (fun j => ((fillB b j : Nat) : Int)) k x j = ((fillB (b ++ [UInt8.ofNat x.toNat]) j : Nat) : Int) := by
 unfold upd fillB
 subst hk
 by_cases e : j = b.length
 ·subst e
  rw [if_pos rfl, List.getD_eq_getElem?_getD, List.getElem?_append_right (Nat.le_refl _)]
  simp
  omega
 ·rw [if_neg e]
  simp only [List.getD_eq_getElem?_getD]
  by_cases h : j < b.length
  ·rw [List.getElem?_append_left h]
  ·rw [List.getElem?_eq_none (by omega), List.getElem?_eq_none (by simp; omega)]
theorem fillB_all (b : List UInt8) : strF b.length (fillB b) = ⟨b.toArray⟩ := by
 unfold strF
 congr 1
 congr 1
 apply List.ext_getElem
 ·simp
 ·intro i h1 h2
  have h3 : i < b.length := by simpa using h1
  simp [fillB, List.getD_eq_getElem?_getD, List.getElem?_eq_getElem h3]
set_option maxRecDepth 100000 in
set_option maxHeartbeats 1000000 in
theorem frontBack_impl (l : List Int) (a : Option Addr) (cap B : Nat) (w : World) (hi : Ints w B a l) (hB : B ≤ w.heap.size) (hn : l.length ≤ 1048576) :
  Calls Tryz.prog 123 #[.slice a l.length cap] w fun e w' => e = .returned (.string ⟨(fbackR l).toArray⟩) ∧ Below w.heap.size w w' := by
 obtain ⟨i0, hi0, hz0, hz1, hz2⟩ := info_parts Nu.Tryz.infoJ5
 by_cases hlong : 400 < l.length
 ·rw [fbackR_no (numsR_long hlong)]
  clear hi
  generalize l.length = n at hlong hn ⊢
  go_enter Tryz.func123, Tryz.ntmps123
  go_wp2_with fail
  go_ret
  exact ⟨rfl, Below.refl _ _⟩
 ·have HU := hideZ (upTo_impl l 255 a cap B w hi hn)
  cases hu : upTo l 255 with
  | false =>
   rw [fbackR_no ((numsR_of (by omega)).trans hu)]
   rw [hu] at HU
   clear hi hu
   generalize l.length = n at HU hlong hn ⊢
   have hd : decide (400 < (n : Int)) = false := decide_eq_false (by omega)
   go_enter Tryz.func123, Tryz.ntmps123
   go_wp2_with fail
   refine HU.out.mono ?_
   rintro e w' ⟨rfl, hw⟩
   subst w'
   go_wp2_with fail
   go_ret
   exact ⟨rfl, Below.refl _ _⟩
  | true =>
   rw [fbackR_yes ((numsR_of (by omega)).trans hu)]
   have HUP := hideZ (upTo_yes hu)
   rw [hu] at HU
   have HS := hideZ (hi.mono hB)
   clear hi hu
   obtain ⟨n, hln⟩ : ∃ n, n = l.length := ⟨_, rfl⟩
   have HLN := hideZ hln
   rw [← hln] at HU hlong ⊢
   clear hln hn
   have hd : decide (400 < (n : Int)) = false := decide_eq_false (by omega)
   go_enter Tryz.func123, Tryz.ntmps123
   go_wp2_with fail
   refine HU.out.mono ?_
   rintro e w' ⟨rfl, hw⟩
   subst w'
   go_wp2_with fail
   refine (rising_impl w).mono ?_
   rintro e w1 ⟨rfl, hb1⟩
   have HB1 := hideZ hb1
   have z1 := hb1.size
   clear hb1
   go_wp2_with (first | ((with_reducible refine wpList_alloc_row Tryz.zeroA97 ?_); intro w2 hb2 hbel2 hs2 ho2; have G2 := hideZ hb2; have HB2 := hideZ (HB1.out.trans (hbel2 _ z1)); clear hb2 hbel2 ho2) | ((with_reducible refine Sh.wpList_store_row' G2.out Tryz.sizeA97 row0 ?_ ?_ ?_); (· rfl); (· rfl); intro w3 hb3 hbel3 hs3 ho3; have G3 := hideZ hb3; have HB3 := hideZ (HB2.out.trans (hbel3 _ z1)); clear hb3 hbel3 ho3) | (at_make; refine wpList_make_full _ rfl (.tmp 17) (.tmp 17) 22 rfl w3.heap.size 5 i0 (.int .u8 0) 1 Tryz.underlying22 hi0 hz0 hz1 .i64 .i64 _ _ n rfl rfl (by simp) (by simp) (by rw [hz2]; omega) (by unfold maxLen; omega) (Nat.le_refl _) ?_; intro w4 hown4 hgrow4; have HR4 := hideZ (made_row hown4); have hb4 := (Below.refl w3.heap.size w3).grown hgrow4 (Nat.le_refl _) (by simp); have G4 := hideZ (G3.out.below hb4 (by omega)); have HB4 := hideZ (HB3.out.trans (hb4.mono (by omega))); clear hown4 hgrow4 hb4))
   obtain ⟨g1, hg1⟩ : ∃ g1, g1 = w1.heap.size := ⟨_, rfl⟩
   have e3 : w3.heap.size = w1.heap.size + 1 := by omega
   rw [e3] at HR4
   have hgw : w.heap.size ≤ g1 := by omega
   rw [← hg1] at G4 HR4 ⊢
   obtain ⟨g2, hg2⟩ : ∃ g2, g2 = g1 + 1 := ⟨_, rfl⟩
   have hg12 : g1 < g2 := by omega
   rw [← hg2] at HR4 ⊢
   clear e3
   clear hg1 hg2 hs2 hs3 z1 HU
   go_loopw [21] (fun i wr => ∃ k : Nat, i = .int .i64 k ∧ k ≤ n ∧ IsB wr g1 97 .u8 256 (kst (l.take k)).2 ∧ IsB wr g2 5 .u8 n (fun j => ((fillB (kst (l.take k)).1 j : Nat) : Int)) ∧ Below w.heap.size w wr) (fun i _ => n - (intOf i).toNat)
   case atStart => exact ⟨0, rfl, Nat.zero_le _, G4.out, HR4.out.congr (fun j _ => by simp [fillB, kst]), HB4.out⟩
   case round =>
    obtain ⟨k, rfl, hk, hrow, htxt, hbel⟩ := hrel
    obtain ⟨hfull, hlen⟩ := kst_full l HUP.out k (by have := HLN.out; omega)
    have R1 := hideZ hrow
    have T1 := hideZ htxt
    have GB := hideZ hbel
    clear hbel
    by_cases hlt : k < n
    ·have hkl : k < l.length := by rw [← HLN.out]; exact hlt
     obtain ⟨b, off, rfl, hb, hc⟩ := (HS.out.below GB.out).some (by omega)
     have ci := hc k hkl
     have hx255 := HUP.out _ (List.getElem_mem hkl)
     have HM := hideZ (kst_more hkl)
     obtain ⟨x, hx⟩ : ∃ x, x = l[k] := ⟨_, rfl⟩
     rw [← hx] at ci hx255 HM
     obtain ⟨p, rfl⟩ : ∃ p : Nat, x = p := ⟨x.toNat, by omega⟩
     have hp : p < 256 := by omega
     have hfp := hfull.2 p hp
     rw [Int.toNat_natCast] at HM
     obtain ⟨f, hf⟩ : ∃ f, f = (kst (l.take k)).2 := ⟨_, rfl⟩
     obtain ⟨bs, hbs⟩ : ∃ bs, bs = (kst (l.take k)).1 := ⟨_, rfl⟩
     rw [← hf] at R1 HM hrow hfp
     rw [← hbs] at T1 HM hlen htxt
     have c1 := hrow.cell (j := p) hp
     have c2 := htxt.cell (j := k) hlt
     have f2 := htxt.frozen k
     obtain ⟨y, hy⟩ : ∃ y, y = f p := ⟨_, rfl⟩
     have HY := hideZ hy
     rw [← hy] at c1 hfp
     have HT2 := hideZ ((htxt.set k y).congr (fun j _ => fillB_next bs k y hlen hfp.1 hfp.2 j))
     have HR2 := hideZ (hrow.set_other ⟨g2, k, none⟩ (.int .u8 y) (by simp; omega))
     have HBr := hideZ (bring_impl g1 p 97 f _ HR2.out hp)
     rw [← hy] at HM
     clear hc hx hf hbs hrow htxt hfull hlen hy
     go_wp2_with fail
     refine HBr.out.mono ?_
     rintro e w5 ⟨rfl, hb5, ha5⟩
     have G5 := hideZ hb5
     have T5 := hideZ (HT2.out.of_heap (ha5.2.2.2.2 g2 HT2.out.lt (by omega)))
     have B5 := hideZ (Aft.below (GB.out.setCell (p := ⟨g2, k, none⟩) (by simp; omega) (.int .u8 y)) ha5 (by omega) (by have := HT2.out.lt; omega))
     clear hb5 ha5
     go_wp2_with fail
     go_roundw
     case rel => exact ⟨k + 1, by go_num, by omega, by rw [HM.out]; exact G5.out, by rw [HM.out]; exact T5.out, B5.out⟩
     case measure => simp [intOf]; omega
    ·obtain rfl : k = n := by omega
     have HT : Hid (l.take k = l) := by
      unfold Hid
      rw [HLN.out, List.take_length]
     rw [HT.out] at htxt hlen
     have hcv := htxt.str (P := Tryz.prog) (src := 22) (dst := 9) k k (Nat.le_refl _) (fun j _ => fillB_lt _ j) Tryz.underlying22 Tryz.underlying5 Tryz.underlying9
     have HF : Hid (strF k (fillB (kst l).1) = ⟨(kst l).1.toArray⟩) := by
      unfold Hid
      rw [← hlen]
      exact fillB_all _
     rw [HF.out] at hcv
     clear hrow htxt hfull hlen
     go_wp2_with fail
     go_ret
     exact ⟨rfl, GB.out⟩
end Go.Proofs.YthbpenanelbbcaaGreatDoor.Fr


/- What the program's Bwt answers. -/
namespace Go.Proofs.YthbpenanelbbcaaGreatDoor.So
open Go.RowKit Go.Sort Go.Proofs
open Go.Proofs.YthbpenanelbbcaaGreatDoor.Sh (bt bt_get bt_lt strF IsB made_row)
def sOut (t : ByteArray) (a c : Nat) : Value := .agg #[.string t, .int .i64 a, .int .i64 c]
def IsR (w : World) (g : Nat) : Prop := w.heap[g]? = some (.cells #[.string ⟨#[]⟩, .int .i64 0, .int .i64 0] 57 (0, 0))
theorem IsR.cells {w : World} {g : Nat} (h : IsR w g) : w.cell? ⟨g, 0, none⟩ = some (.string ⟨#[]⟩) ∧ w.cell? ⟨g, 1, none⟩ = some (.int .i64 0) ∧ w.cell? ⟨g, 2, none⟩ = some (.int .i64 0) ∧ (∀ j, w.frozen? ⟨g, j, none⟩ = false) := by
 refine ⟨?_, ?_, ?_, fun j => frozen_of_row w g j _ _ h⟩
 ·rw [cell_of_row w g 0 _ _ (0, 0) h]; rfl
 ·rw [cell_of_row w g 1 _ _ (0, 0) h]; rfl
 ·rw [cell_of_row w g 2 _ _ (0, 0) h]; rfl
theorem atK_next (f : Nat → Nat) (k : Nat) : (f k = 0 → atK f (k + 1) = k) ∧ (f k ≠ 0 → atK f (k + 1) = atK f k) := by
 constructor
 ·intro h; rw [atK, if_pos h]
 ·intro h; rw [atK, if_neg h]
set_option maxRecDepth 100000 in
set_option maxHeartbeats 1000000 in
theorem bwt_impl (t : ByteArray) (w : World) (hn : t.size ≤ 1048576) :
    Calls Tryz.prog 41 #[.string t] w fun e w' => e = .returned (sOut (bwtT t) (bwtA t) (bwtC t)) ∧ Below w.heap.size w w' := by
  obtain ⟨i0, hi0, hz0, hz1, hz2⟩ := info_parts Nu.Tryz.infoJ5
  by_cases hbig : 8000 < t.size
  · have HV : Hid (sOut (bwtT t) (bwtA t) (bwtC t) = sOut ⟨#[]⟩ 0 2) := by
      unfold Hid
      rw [(bwt_no (by omega)).1, (bwt_no (by omega)).2, bwtC, if_pos hbig]
    go_enter Tryz.func41, Tryz.ntmps41
    go_wp2_with fail
    refine bodyPost_ret (v := sOut ⟨#[]⟩ 0 2) (by simp [results, sOut, Tryz.results41, go_sem]) rfl ⟨by rw [HV.out], ?_⟩
    exact (Below.refl _ _).alloc (Nat.le_refl _) _
  · have hbig' : ¬ (8000 : Int) < (t.size : Int) := by omega
    by_cases hlong : 48 < t.size
    · have HV : Hid (sOut (bwtT t) (bwtA t) (bwtC t) = sOut ⟨#[]⟩ 0 1) := by
        unfold Hid
        rw [(bwt_no (by omega)).1, (bwt_no (by omega)).2, bwtC, if_neg hbig, if_pos hlong]
      go_enter Tryz.func41, Tryz.ntmps41
      go_wp2_with fail
      refine bodyPost_ret (v := sOut ⟨#[]⟩ 0 1) (by simp [results, sOut, Tryz.results41, go_sem]) rfl ⟨by rw [HV.out], ?_⟩
      exact (Below.refl _ _).alloc (Nat.le_refl _) _
    · have hlong' : ¬ (48 : Int) < (t.size : Int) := by omega
      obtain ⟨w0, hw0⟩ : ∃ w0, w0 = w.alloc (.cells #[.string ⟨#[]⟩, .int .i64 0, .int .i64 0] 57) := ⟨_, rfl⟩
      have z0 : w0.heap.size = w.heap.size + 1 := by rw [hw0]; simp
      have HR0 : Hid (IsR w0 w.heap.size) := by unfold Hid; rw [hw0]; exact heap_alloc_last w _
      have HB0 : Hid (Below w.heap.size w w0) := by unfold Hid; rw [hw0]; exact (Below.refl _ _).alloc (Nat.le_refl _) _
      go_enter Tryz.func41, Tryz.ntmps41
      go_wp2_with (at_make; rw [← hw0]; refine wpList_make_full _ rfl (.tmp 16) (.tmp 16) 22 rfl w0.heap.size 5 i0 (.int .u8 0) 1 Tryz.underlying22 hi0 hz0 hz1 .i64 .i64 _ _ t.size rfl rfl (by simp) (by simp) (by rw [hz2]; omega) (by unfold maxLen; omega) (Nat.le_refl _) ?_; intro w1 hown1 hgrow1; have HT1 := hideO (made_row hown1); have hb1 := (Below.refl w0.heap.size w0).grown hgrow1 (Nat.le_refl _) (by simp); have HR1 : Hid (IsR w1 w.heap.size) := (hb1.block w.heap.size (by omega)).trans HR0.out; have HB1 := hideO (HB0.out.trans (hb1.mono (by omega))); have zz1 := HT1.out.lt; clear hown1 hgrow1 hb1)
      refine (sorted_T t hn w1).mono ?_
      rintro e w2 ⟨g, cap, d, rfl, hg1, hg2, hH, hds, hp, hr, ⟨cur, hty⟩, hb2⟩
      have HH := hideO hH
      have HDS := hideO hds
      have HB2 := hideO (HB1.out.trans (hb2.mono HB1.out.size))
      have HR2 : Hid (IsR w2 w.heap.size) := (hb2.block w.heap.size (by omega)).trans HR1.out
      have HT2 := hideO (HT1.out.below hb2 zz1)
      have z2 := hb2.size
      have HXT : Hid (∀ k, k < t.size → d[k]! < t.size) := fun k hk => by
        have : dF d k ∈ seg (dF d) 0 t.size := by
          rw [seg, List.mem_map]
          exact ⟨k, by simp; omega, by simp⟩
        have := hp.mem_iff.1 this
        have h2 := List.mem_range.1 this
        exact h2
      have HE := hideO (bwt_yes (by omega) (ordF_seg (ord_seg hp hr)))
      clear hH hds hp hr hb2 hty
      go_wp2_with fail
      go_loopw [21, 4] (fun i a wr => ∃ k : Nat, i = .int .i64 k ∧ k ≤ t.size ∧ a = .int .i64 (atK (dF d) k : Nat) ∧ IsB wr (w.heap.size + 1) 5 .u8 t.size (fun j => ((fillL t (dF d) k j : Nat) : Int)) ∧ IsR wr w.heap.size ∧ wr.heap[g]? = w2.heap[g]? ∧ Below w.heap.size w wr) (fun i _ _ => t.size - (intOf i).toNat)
      case atStart => exact ⟨0, rfl, Nat.zero_le _, rfl, by rw [← z0]; exact HT2.out.congr (fun j _ => by simp [fillL]), HR2.out, rfl, HB2.out⟩
      case round =>
        obtain ⟨k, rfl, hk, rfl, htxt, hres, hbg, hbel⟩ := hrel
        have T1 := hideO htxt
        have R1 := hideO hres
        have GB := hideO hbel
        have HBG := hideO hbg
        have hsz := htxt.lt
        clear hbel
        by_cases hlt : k < t.size
        · obtain ⟨x0c, _, x1c, _⟩ := cells_T (holds_block HH.out hbg) (i := k) (by rw [HDS.out]; exact hlt)
          have hkz : (k : Int) < (t.size : Int) := by omega
          have hxt := HXT.out k hlt
          have HN := hideO (fillL_next t (dF d) k)
          have HA := hideO (atK_next (dF d) k)
          have HX : Hid (dF d k = d[k]!) := rfl
          obtain ⟨x, hx⟩ : ∃ x, x = d[k]! := ⟨_, rfl⟩
          rw [← hx] at x0c x1c hxt HX
          rw [HX.out] at HN HA
          obtain ⟨p, hp⟩ : ∃ p, t.size = p + 1 := ⟨t.size - 1, by omega⟩
          have e1 : (t.size : Int) - 1 = (p : Int) := by omega
          have hwp : IntKind.i64.wrap (p : Int) = (p : Int) := by rw [IntKind.wrap_i64]; omega
          have htz := turnV_size t x (by omega)
          have hlast := turnV_last t x hxt
          rw [show t.size - 1 = p by omega] at hlast
          have hpx : p < (turnV t x).size := by omega
          obtain ⟨y, hy, hyt⟩ : ∃ y : UInt8, (turnV t x)[p] = y ∧ y.toNat = lastB t x := ⟨_, rfl, (bt_get _ _ hpx).trans hlast⟩
          rw [← hyt] at HN
          generalize turnV t x = tx at x1c hpx hy htz
          have hpx' : (p : Int) < (tx.size : Int) := by omega
          have c2 := htxt.cell (j := k) hlt
          have f2 := htxt.frozen k
          have hgl : g < wr.heap.size := by
            have := GB.out.size
            have h2 : w2.heap[g]? ≠ none := by rw [Array.getElem?_eq_getElem hg2]; simp
            rw [← hbg] at h2
            exact Nat.lt_of_not_le fun h => h2 (Array.getElem?_eq_none h)
          have HTN := hideO fun W (h : IsB W (w.heap.size + 1) 5 .u8 t.size (fun j => ((fillL t (dF d) k j : Nat) : Int))) => (h.set k (y.toNat : Nat)).congr (fun j _ => HN.out j)
          obtain ⟨m, hm⟩ : ∃ m, m = atK (dF d) k := ⟨_, rfl⟩
          rw [← hm] at HA ⊢
          clear hx htxt hres hbg hlast hyt hm
          have TS := HTN.out wr T1.out
          have RS : IsR (wr.setCell ⟨w.heap.size + 1, k, none⟩ (.int .u8 (y.toNat : Nat))) w.heap.size := by
            unfold IsR
            rw [heap_setCell_other _ _ _ _ (by simp)]
            exact R1.out
          have GS : (wr.setCell ⟨w.heap.size + 1, k, none⟩ (.int .u8 (y.toNat : Nat))).heap[g]? = w2.heap[g]? := by
            rw [heap_setCell_other _ _ _ _ (by simp; omega)]
            exact HBG.out
          have BS := GB.out.setCell (p := ⟨w.heap.size + 1, k, none⟩) (by simp) (.int .u8 (y.toNat : Nat))
          have LS : g < (wr.setCell ⟨w.heap.size + 1, k, none⟩ (.int .u8 (y.toNat : Nat))).heap.size := by simpa using hgl
          have HS : Hid (∀ o : Obj, IsB ((wr.setCell ⟨w.heap.size + 1, k, none⟩ (.int .u8 (y.toNat : Nat))).alloc o) (w.heap.size + 1) 5 .u8 t.size (fun j => ((fillL t (dF d) (k + 1) j : Nat) : Int)) ∧ IsR ((wr.setCell ⟨w.heap.size + 1, k, none⟩ (.int .u8 (y.toNat : Nat))).alloc o) w.heap.size ∧ ((wr.setCell ⟨w.heap.size + 1, k, none⟩ (.int .u8 (y.toNat : Nat))).alloc o).heap[g]? = w2.heap[g]? ∧ Below w.heap.size w ((wr.setCell ⟨w.heap.size + 1, k, none⟩ (.int .u8 (y.toNat : Nat))).alloc o)) := by
            intro o
            generalize wr.setCell ⟨w.heap.size + 1, k, none⟩ (.int .u8 (y.toNat : Nat)) = W at TS RS GS BS LS ⊢
            have ba : Below W.heap.size W (W.alloc o) := (Below.refl _ _).alloc (Nat.le_refl _) _
            have h1 := TS.lt
            exact ⟨TS.below ba h1, (ba.block _ (by omega)).trans RS, (ba.block _ LS).trans GS, BS.trans (ba.mono BS.size)⟩
          clear TS RS GS BS LS
          by_cases hx0 : x = 0
          · subst hx0
            have HM := hideO (HA.out.1 rfl)
            go_wp2_with fail
            go_roundw
            case rel => exact ⟨k + 1, by go_num, by omega, by rw [HM.out], HS.out _⟩
            case measure => simp [intOf]; omega
          · have HM := hideO (HA.out.2 hx0)
            have hxz : ((x : Int) == 0) = false := by simpa using hx0
            go_wp2_with fail
            go_roundw
            case rel => exact ⟨k + 1, by go_num, by omega, by rw [HM.out], HS.out _⟩
            case measure => simp [intOf]; omega
        · obtain rfl : k = t.size := by omega
          have hcv := htxt.str (P := Tryz.prog) (src := 22) (dst := 9) t.size t.size (Nat.le_refl _) (fun j _ => fillL_lt _ _ _ j) Tryz.underlying22 Tryz.underlying5 Tryz.underlying9
          rw [fillL_all] at hcv
          obtain ⟨c0, c1, c2, f0⟩ := hres.cells
          have HV : Hid (sOut (bwtT t) (bwtA t) (bwtC t) = sOut (strF t.size (fun j => lastB t (dF d j))) (atK (dF d) t.size) 0) := by
            unfold Hid
            rw [HE.out.1, HE.out.2.1, HE.out.2.2]
          obtain ⟨q, hq⟩ : ∃ q, q = strF t.size (fun j => lastB t (dF d j)) := ⟨_, rfl⟩
          obtain ⟨m, hm⟩ : ∃ m, m = atK (dF d) t.size := ⟨_, rfl⟩
          rw [← hq] at hcv HV
          rw [← hm] at HV ⊢
          clear htxt hres hbg hq hm
          go_wp2_with fail
          refine bodyPost_ret (v := sOut q m 0) (by simp [results, sOut, Tryz.results41, go_sem, c0, c1, c2]) rfl ⟨by rw [HV.out], ?_⟩
          exact ((GB.out.setCell (Nat.le_refl _) _).setCell (Nat.le_refl _) _).setCell (Nat.le_refl _) _
end Go.Proofs.YthbpenanelbbcaaGreatDoor.So


/- What the program's Unbwt answers. -/
namespace Go.Proofs.YthbpenanelbbcaaGreatDoor.So
open Go.RowKit Go.Sort Go.Proofs
open Go.Proofs.YthbpenanelbbcaaGreatDoor.Sh (bt bt_get bt_lt strF IsB made_row)
set_option maxRecDepth 100000 in
set_option maxHeartbeats 1000000 in
theorem turnBack_impl (t : ByteArray) (a : Nat) (w : World) (hn : t.size ≤ 1048576) (ha : a < t.size ∨ t.size = 0) :
  Calls Tryz.prog 148 #[.string t, .int .i64 a] w fun e w' => e = .returned (.string (backT t a)) ∧ Below w.heap.size w w' := by
 obtain ⟨i0, hi0, hz0, hz1, hz2⟩ := info_parts Nu.Tryz.infoJ5
 have HPL := hideO (places_impl t w hn)
 go_enter Tryz.func148, Tryz.ntmps148
 go_wp2_with fail
 refine HPL.out.mono ?_
 rintro e w1 ⟨g, rfl, hg1, hg2, hc, hb1⟩
 have HC := hideO hc
 have HB1 := hideO hb1
 have z1 := hb1.size
 clear hc hb1
 go_wp2_with (at_make; refine wpList_make_full _ rfl (.tmp 12) (.tmp 12) 22 rfl w1.heap.size 5 i0 (.int .u8 0) 1 Tryz.underlying22 hi0 hz0 hz1 .i64 .i64 _ _ t.size rfl rfl (by simp) (by simp) (by rw [hz2]; omega) (by unfold maxLen; omega) (Nat.le_refl _) ?_; intro w2 hown2 hgrow2; have HT2 := hideO (made_row hown2); have HB2 := hideO ((Below.refl w1.heap.size w1).grown hgrow2 (Nat.le_refl _) (by simp)); clear hown2 hgrow2)
 go_loopw [17, 7] (fun i m wr => ∃ k : Nat, i = .int .i64 k ∧ k ≤ t.size ∧ m = .int .i64 (itR t a k : Nat) ∧ IsB wr w1.heap.size 5 .u8 t.size (fun j => ((fillK t a k j : Nat) : Int)) ∧ Below w1.heap.size w1 wr) (fun i _ _ => t.size - (intOf i).toNat)
 case atStart => exact ⟨0, rfl, Nat.zero_le _, rfl, HT2.out.congr (fun j _ => by simp [fillK]), HB2.out⟩
 case round =>
  obtain ⟨k, rfl, hk, rfl, hrow, hbel⟩ := hrel
  have T1 := hideO hrow
  have GB := hideO hbel
  have hsz := hrow.lt
  clear hbel
  by_cases hlt : k < t.size
  ·have hat : a < t.size := by omega
   have hr1 := itR_lt t a k hat
   have hr2 := itR_lt t a (k + 1) hat
   have e0 : itR t a (k + 1) = plF t (itR t a k) := rfl
   have c1 : wr.cell? ⟨g, itR t a k, none⟩ = some (.int .i64 (itR t a (k + 1) : Nat)) := by
    rw [GB.out.cell (p := ⟨g, itR t a k, none⟩) hg2, e0]
    exact HC.out _ hr1
   have HN := hideO (fillK_next t a k)
   obtain ⟨p, hp⟩ : ∃ p, p = itR t a k := ⟨_, rfl⟩
   obtain ⟨q, hq⟩ : ∃ q, q = itR t a (k + 1) := ⟨_, rfl⟩
   have HQ := hideO hq
   rw [← hp, ← hq] at c1
   rw [← hq] at hr2 HN
   rw [← hp] at hr1 ⊢
   have hpz : (p : Int) < (t.size : Int) := by omega
   have hqz : (q : Int) < (t.size : Int) := by omega
   have hkz : (k : Int) < (t.size : Int) := by omega
   obtain ⟨y, hy, hyt⟩ : ∃ y : UInt8, t[q] = y ∧ y.toNat = bt t q := ⟨_, rfl, bt_get _ _ hr2⟩
   rw [← hyt] at HN
   have c2 := hrow.cell (j := k) hlt
   have f2 := hrow.frozen k
   have TS := hideO ((hrow.set k (y.toNat : Nat)).congr (fun j _ => HN.out j))
   have BS := hideO (GB.out.setCell (p := ⟨w1.heap.size, k, none⟩) (Nat.le_refl _) (.int .u8 (y.toNat : Nat)))
   clear hrow hp hq hyt e0 ha
   go_wp2_with fail
   go_roundw
   case rel => exact ⟨k + 1, by go_num, by omega, by rw [← HQ.out], TS.out, BS.out⟩
   case measure => simp [intOf]; omega
  ·obtain rfl : k = t.size := by omega
   have hcv := hrow.str (P := Tryz.prog) (src := 22) (dst := 9) t.size t.size (Nat.le_refl _) (fun j _ => fillK_lt _ _ _ j) Tryz.underlying22 Tryz.underlying5 Tryz.underlying9
   rw [fillK_all] at hcv
   have BZ := hideO (HB1.out.trans (GB.out.mono z1))
   generalize itR t a t.size = m
   clear hrow ha
   go_wp2_with fail
   go_ret
   exact ⟨rfl, BZ.out⟩
set_option maxHeartbeats 1000000 in
theorem isPlace_impl (t : ByteArray) (a : Int) (w : World) :
  Calls Tryz.prog 147 #[.string t, .int .i64 a] w fun e w' => e = .returned (.bool (!decide (a < 0 ∨ ((t.size : Int) ≤ a ∧ 0 < a)))) ∧ w' = w := by
 by_cases h0 : a = 0
 ·subst h0
  rw [decide_eq_false (by omega)]
  go_enter Tryz.func147, Tryz.ntmps147
  go_wp2_with fail
  go_ret
  exact ⟨rfl, rfl⟩
 ·have hz : (a == 0) = false := beq_eq_false_iff_ne.2 h0
  by_cases h1 : 0 < a
  ·have hd : decide (0 < a) = true := decide_eq_true h1
   by_cases h2 : a < (t.size : Int)
   ·have hd2 : decide (a < (t.size : Int)) = true := decide_eq_true h2
    rw [decide_eq_false (by omega)]
    clear h0
    go_enter Tryz.func147, Tryz.ntmps147
    go_wp2_with fail
    go_ret
    exact ⟨rfl, rfl⟩
   ·have hd2 : decide (a < (t.size : Int)) = false := decide_eq_false h2
    rw [decide_eq_true (by omega)]
    clear h0
    go_enter Tryz.func147, Tryz.ntmps147
    go_wp2_with fail
    go_ret
    exact ⟨rfl, rfl⟩
  ·have hd : decide (0 < a) = false := decide_eq_false h1
   rw [decide_eq_true (by omega)]
   clear h0
   go_enter Tryz.func147, Tryz.ntmps147
   go_wp2_with fail
   go_ret
   exact ⟨rfl, rfl⟩
end Go.Proofs.YthbpenanelbbcaaGreatDoor.So


/- What the program's Unbwt answers: the whole. -/
namespace Go.Proofs.YthbpenanelbbcaaGreatDoor.So
open Go.RowKit Go.Sort Go.Proofs
def IsX (w : World) (g : Nat) : Prop := w.heap[g]? = some (.cells #[.string ⟨#[]⟩, .int .i64 0, .int .i64 0] 26 (0, 0))
theorem IsX.cells {w : World} {g : Nat} (h : IsX w g) : w.cell? ⟨g, 0, none⟩ = some (.string ⟨#[]⟩) ∧ w.cell? ⟨g, 1, none⟩ = some (.int .i64 0) ∧ w.cell? ⟨g, 2, none⟩ = some (.int .i64 0) ∧ (∀ j, w.frozen? ⟨g, j, none⟩ = false) := by
 refine ⟨?_, ?_, ?_, fun j => frozen_of_row w g j _ _ h⟩
 ·rw [cell_of_row w g 0 _ _ (0, 0) h]; rfl
 ·rw [cell_of_row w g 1 _ _ (0, 0) h]; rfl
 ·rw [cell_of_row w g 2 _ _ (0, 0) h]; rfl
theorem bwtC_no {t : ByteArray} (h : t.size ≤ 48) : bwtC t = 0 := by
 unfold bwtC
 rw [if_neg (by omega), if_neg (by omega)]
set_option maxRecDepth 100000 in
set_option maxHeartbeats 1000000 in
theorem unbwt_impl (t : ByteArray) (a : Int) (w : World) (hn : t.size ≤ 1048576) :
  Calls Tryz.prog 125 #[.string t, .int .i64 a] w fun e w' => e = .returned (unR t a) ∧ Below w.heap.size w w' := by
 by_cases hbig : 8000 < t.size
 ·have HV := hideO (unR_big (a := a) hbig)
  go_enter Tryz.func125, Tryz.ntmps125
  go_wp2_with fail
  refine bodyPost_ret (v := tOut ⟨#[]⟩ 0 2) (by simp [results, tOut, Tryz.results125, go_sem]) rfl ⟨by rw [HV.out], ?_⟩
  exact (Below.refl _ _).alloc (Nat.le_refl _) _
 ·have hbig' : ¬ (8000 : Int) < (t.size : Int) := by omega
  by_cases hlong : 48 < t.size
  ·have HV := hideO (unR_form (a := a) hbig (Or.inl hlong))
   have hd : decide ((48 : Int) < (t.size : Int)) = true := decide_eq_true (by omega)
   go_enter Tryz.func125, Tryz.ntmps125
   go_wp2_with fail
   refine bodyPost_ret (v := tOut ⟨#[]⟩ 0 1) (by simp [results, tOut, Tryz.results125, go_sem]) rfl ⟨by rw [HV.out], ?_⟩
   exact (Below.refl _ _).alloc (Nat.le_refl _) _
  ·have hlong' : ¬ (48 : Int) < (t.size : Int) := by omega
   have hd : decide ((48 : Int) < (t.size : Int)) = false := decide_eq_false (by omega)
   obtain ⟨w0, hw0⟩ : ∃ w0, w0 = w.alloc (.cells #[.string ⟨#[]⟩, .int .i64 0, .int .i64 0] 26) := ⟨_, rfl⟩
   have z0 : w0.heap.size = w.heap.size + 1 := by rw [hw0]; simp
   have HR0 : Hid (IsX w0 w.heap.size) := by unfold Hid; rw [hw0]; exact heap_alloc_last w _
   have HB0 : Hid (Below w.heap.size w w0) := by unfold Hid; rw [hw0]; exact (Below.refl _ _).alloc (Nat.le_refl _) _
   have HIP := hideO (isPlace_impl t a w0)
   by_cases hbad : a < 0 ∨ ((t.size : Int) ≤ a ∧ 0 < a)
   ·have HV := hideO (unR_form hbig (Or.inr hbad))
    rw [decide_eq_true hbad] at HIP
    go_enter Tryz.func125, Tryz.ntmps125
    go_wp2_with fail
    rw [← hw0]
    refine HIP.out.mono ?_
    rintro e w' ⟨rfl, hw⟩
    subst w'
    subst hw0
    go_wp2_with fail
    refine bodyPost_ret (v := tOut ⟨#[]⟩ 0 1) (by simp [results, tOut, Tryz.results125, go_sem]) rfl ⟨by rw [HV.out], ?_⟩
    exact (Below.refl _ _).alloc (Nat.le_refl _) _
   ·rw [decide_eq_false hbad] at HIP
    obtain ⟨m, rfl⟩ : ∃ m : Nat, a = m := ⟨a.toNat, by omega⟩
    have HTB := hideO (turnBack_impl t m w0 hn (by omega))
    have hbz := backT_size t m
    have HBW := hideO (fun W => bwt_impl (backT t m) W (by omega))
    rw [bwtC_no (show (backT t m).size ≤ 48 by omega)] at HBW
    have HY := hideO (fun h => unR_yes (t := t) (a := m) (by omega) (by omega) h)
    have HNO := hideO (fun h => unR_no (t := t) (a := m) (by omega) (by omega) h)
    obtain ⟨b, hb⟩ : ∃ b, b = backT t m := ⟨_, rfl⟩
    obtain ⟨bt', hbt⟩ : ∃ bt', bt' = bwtT b := ⟨_, rfl⟩
    obtain ⟨ba, hba⟩ : ∃ ba, ba = bwtA b := ⟨_, rfl⟩
    rw [← hb] at HTB HBW HY HNO
    rw [← hbt, ← hba] at HBW HY HNO
    unfold sOut at HBW
    clear hb hbt hba hbz hbad
    by_cases hq : bt' = t ∧ ba = m
    ·obtain ⟨rfl, rfl⟩ := hq
     have HV := hideO (HY.out ⟨rfl, rfl⟩)
     clear HY HNO
     go_enter Tryz.func125, Tryz.ntmps125
     go_wp2_with fail
     rw [← hw0]
     refine HIP.out.mono ?_
     rintro e w' ⟨rfl, hw⟩
     subst w'
     go_wp2_with fail
     rw [← hw0]
     refine HTB.out.mono ?_
     rintro e w1 ⟨rfl, hb1⟩
     have HR1 : Hid (IsX w1 w.heap.size) := (hb1.block w.heap.size (by omega)).trans HR0.out
     have HB1 := hideO (HB0.out.trans (hb1.mono (by omega)))
     have z1 := hb1.size
     clear hb1
     go_wp2_with fail
     refine (HBW.out w1).mono ?_
     rintro e w2 ⟨rfl, hb2⟩
     have hr2 : IsX w2 w.heap.size := (hb2.block w.heap.size (by omega)).trans HR1.out
     have GB := hideO (HB1.out.trans (hb2.mono (by omega)))
     have z2 := hb2.size
     obtain ⟨c0, c1, c2, f0⟩ := hr2.cells
     clear hr2 hb2
     go_wp2_with fail
     refine bodyPost_ret (v := tOut b 0 0) (by simp [results, tOut, Tryz.results125, go_sem, c0, c1, c2]) rfl ⟨by rw [HV.out], ?_⟩
     exact ((GB.out.setCell (Nat.le_refl _) _).setCell (Nat.le_refl _) _).setCell (Nat.le_refl _) _
    ·have HV := hideO (HNO.out hq)
     by_cases hqt : bt' = t
     ·subst hqt
      have hqm : ((ba : Int) == (m : Int)) = false := beq_eq_false_iff_ne.2 (fun e => hq ⟨rfl, by omega⟩)
      clear hq
      clear HY HNO
      go_enter Tryz.func125, Tryz.ntmps125
      go_wp2_with fail
      rw [← hw0]
      refine HIP.out.mono ?_
      rintro e w' ⟨rfl, hw⟩
      subst w'
      go_wp2_with fail
      rw [← hw0]
      refine HTB.out.mono ?_
      rintro e w1 ⟨rfl, hb1⟩
      have HR1 : Hid (IsX w1 w.heap.size) := (hb1.block w.heap.size (by omega)).trans HR0.out
      have HB1 := hideO (HB0.out.trans (hb1.mono (by omega)))
      have z1 := hb1.size
      clear hb1
      go_wp2_with fail
      refine (HBW.out w1).mono ?_
      rintro e w2 ⟨rfl, hb2⟩
      have hr2 : IsX w2 w.heap.size := (hb2.block w.heap.size (by omega)).trans HR1.out
      have GB := hideO (HB1.out.trans (hb2.mono (by omega)))
      have z2 := hb2.size
      obtain ⟨c0, c1, c2, f0⟩ := hr2.cells
      clear hr2 hb2
      go_wp2_with fail
      refine bodyPost_ret (v := tOut ⟨#[]⟩ 0 3) (by simp [results, tOut, Tryz.results125, go_sem, c0, c1, c2]) rfl ⟨by rw [HV.out], ?_⟩
      exact ((GB.out.setCell (Nat.le_refl _) _).setCell (Nat.le_refl _) _).setCell (Nat.le_refl _) _
     ·have hqe : (bt'.toList == t.toList) = false := by rw [list_eq_iff]; exact decide_eq_false hqt
      clear hq hqt
      clear HY HNO
      go_enter Tryz.func125, Tryz.ntmps125
      go_wp2_with fail
      rw [← hw0]
      refine HIP.out.mono ?_
      rintro e w' ⟨rfl, hw⟩
      subst w'
      go_wp2_with fail
      rw [← hw0]
      refine HTB.out.mono ?_
      rintro e w1 ⟨rfl, hb1⟩
      have HR1 : Hid (IsX w1 w.heap.size) := (hb1.block w.heap.size (by omega)).trans HR0.out
      have HB1 := hideO (HB0.out.trans (hb1.mono (by omega)))
      have z1 := hb1.size
      clear hb1
      go_wp2_with fail
      refine (HBW.out w1).mono ?_
      rintro e w2 ⟨rfl, hb2⟩
      have hr2 : IsX w2 w.heap.size := (hb2.block w.heap.size (by omega)).trans HR1.out
      have GB := hideO (HB1.out.trans (hb2.mono (by omega)))
      have z2 := hb2.size
      obtain ⟨c0, c1, c2, f0⟩ := hr2.cells
      clear hr2 hb2
      go_wp2_with fail
      refine bodyPost_ret (v := tOut ⟨#[]⟩ 0 3) (by simp [results, tOut, Tryz.results125, go_sem, c0, c1, c2]) rfl ⟨by rw [HV.out], ?_⟩
      exact ((GB.out.setCell (Nat.le_refl _) _).setCell (Nat.le_refl _) _).setCell (Nat.le_refl _) _
end Go.Proofs.YthbpenanelbbcaaGreatDoor.So


/- What the program's ZerosBack answers. -/
namespace Go.Proofs.YthbpenanelbbcaaGreatDoor.Ze
open Go.RowKit
open Go.Proofs.YthbpenanelbbcaaGreatDoor.Bi (upTo_impl)
open Go.Proofs.YthbpenanelbbcaaGreatDoor.In (Ints OwnI IsO one_newI one_cellI app_one)
open Go.Proofs.YthbpenanelbbcaaGreatDoor.In.Tryz (infoI2)
theorem OwnI.zeros {w : World} {base : Nat} {v : Value} {l : List Int} {m : Nat} (h : w.ownsRow base 2 1 v (l.length + m) (l.map (Value.int .i64) ++ List.replicate m (.int .i64 0))) : OwnI w base v (l ++ List.replicate m 0) := by
 unfold OwnI
 rw [List.length_append, List.map_append, List.length_replicate, List.map_replicate]
 exact h
set_option maxRecDepth 100000 in
set_option maxHeartbeats 1000000 in
theorem zerosBack_impl (l : List Int) (a : Option Addr) (cap B : Nat) (w : World) (hi : Ints w B a l) (hB : B ≤ w.heap.size) (hn : l.length ≤ 1048576) :
    Calls Tryz.prog 124 #[.slice a l.length cap] w fun e w' => ∃ v, e = .returned v ∧ OwnI w' w.heap.size v (backR l) ∧ Below w.heap.size w w' := by
  obtain ⟨i0, hi0, hz0, hz1, hz2⟩ := info_parts infoI2
  by_cases hlong : 400 < l.length
  · rw [backR_no (numsR_long hlong)]
    clear hi
    generalize l.length = n at hlong hn ⊢
    go_enter Tryz.func124, Tryz.ntmps124
    go_wp2_with fail
    go_ret
    exact ⟨_, rfl, OwnI.nil _ _, Below.refl _ _⟩
  · have HU := hideZ (upTo_impl l 256 a cap B w hi hn)
    cases hu : upTo l 256 with
    | false =>
      rw [backR_no ((numsR_of (by omega)).trans hu)]
      rw [hu] at HU
      clear hi hu
      generalize l.length = n at HU hlong hn ⊢
      have hd : decide (400 < (n : Int)) = false := decide_eq_false (by omega)
      go_enter Tryz.func124, Tryz.ntmps124
      go_wp2_with fail
      refine HU.out.mono ?_
      rintro e w' ⟨rfl, hw⟩
      subst w'
      go_wp2_with fail
      go_ret
      exact ⟨_, rfl, OwnI.nil _ _, Below.refl _ _⟩
    | true =>
      have HNR := hideZ ((numsR_of (by omega)).trans hu)
      have HUP := hideZ (upTo_yes hu)
      rw [hu] at HU
      have HS := hideZ (hi.mono hB)
      clear hi hu
      obtain ⟨n, hln⟩ : ∃ n, n = l.length := ⟨_, rfl⟩
      have HLN := hideZ hln
      rw [← hln] at HU hlong ⊢
      clear hln hn
      have hd : decide (400 < (n : Int)) = false := decide_eq_false (by omega)
      go_enter Tryz.func124, Tryz.ntmps124
      go_wp2_with fail
      refine HU.out.mono ?_
      rintro e w' ⟨rfl, hw⟩
      subst w'
      go_wp2_with fail
      go_loopw [17, 3, 4] (fun i u m wr => ∃ k q : Nat, i = .int .i64 k ∧ m = .int .i64 q ∧ k ≤ n ∧ q = (bst (l.take k)).2 ∧ (bst (l.take k)).1.length ≤ 400 ∧ OwnI wr w.heap.size u (bst (l.take k)).1 ∧ Below w.heap.size w wr) (fun i _ _ _ => n - (intOf i).toNat)
      case atStart => exact ⟨0, 1, rfl, rfl, Nat.zero_le _, rfl, by simp [bst], OwnI.nil _ _, Below.refl _ _⟩
      case round =>
        obtain ⟨k, q, rfl, rfl, hk, hq, h400, hown, hbel⟩ := hrel
        have hwo := (bst_worth l k (by have := HLN.out; omega)).2
        rw [← hq] at hwo
        have hq4 : q ≤ 401 := by omega
        have GB := hideZ hbel
        have HQ := hideZ hq
        have hsz := hbel.size
        obtain ⟨a', cap', rfl, _, _⟩ := hown.ints
        obtain ⟨lk, hlk⟩ : ∃ lk, lk = (bst (l.take k)).1 := ⟨_, rfl⟩
        rw [← hlk] at hown h400 ⊢
        have G1 := hideZ hown
        have HLK := hideZ hlk
        clear hq hown hbel hlk hwo
        by_cases hlt : k < n
        · have hkl : k < l.length := by rw [← HLN.out]; exact hlt
          obtain ⟨b, off, rfl, hb, hc⟩ := (HS.out.below GB.out).some (by omega)
          have ci := hc k hkl
          have hx256 := HUP.out _ (List.getElem_mem hkl)
          obtain ⟨x, hx⟩ : ∃ x, x = l[k] := ⟨_, rfl⟩
          have HX := hideZ hx
          rw [← hx] at ci hx256
          clear hc hx
          by_cases h0 : 1 < x
          · have HZ1 : Hid (bst (l.take (k + 1)) = (lk ++ [x - 1], 1)) := by
              unfold Hid
              rw [bst_one hkl (by rw [← HX.out]; exact h0), HX.out, HLK.out]
            go_wp2_with (at_builtin; refine wpList_append_own _ rfl (.tmp 23) (.tmp 26) 59 rfl w.heap.size 2 i0 (.int .i64 0) 1 8 Tryz.underlying59 hi0 hz0 hz1 hz2 rfl (by decide) _ _ _ rfl (OwnI.alloc G1.out _) ⟨wr.heap.size, 0, none⟩ 1 1 [.int .i64 (x - 1)] rfl rfl (one_newI _ _ _) (one_cellI _) (by unfold maxLen; omega) (by omega) (by simp; omega) ?_)
            intro v' w6 hown' hgrow _
            have hown6 := OwnI.snoc hown'
            have b6 := hideZ (app_one GB.out (by omega) (Nat.le_refl _) G1.out hgrow)
            obtain ⟨l6, hl6⟩ : ∃ l6, l6 = lk ++ [x - 1] := ⟨_, rfl⟩
            rw [← hl6] at hown6 HZ1
            have N6 := hideZ hown6
            obtain ⟨a6, cap6, rfl, _, _⟩ := hown6.ints
            clear hown' hgrow hown6 hl6
            by_cases h4 : 400 < l6.length
            · have HE : Hid (backR l = []) := backR_long (k := k + 1) (by have := HLN.out; omega) (by rw [HZ1.out]; exact h4)
              have h4' : (400 : Int) < (l6.length : Int) := by omega
              go_wp2_with fail
              go_ret
              exact ⟨_, rfl, by rw [HE.out]; exact OwnI.nil _ _, b6.out⟩
            · have h4' : ¬ (400 : Int) < (l6.length : Int) := by omega
              go_wp2_with fail
              go_roundw
              case rel => exact ⟨k + 1, 1, by go_num, rfl, by omega, by rw [HZ1.out], by rw [HZ1.out]; simp only; omega, by rw [HZ1.out]; exact N6.out, b6.out⟩
              case measure => simp [intOf]; omega
          · have HZ1 : Hid (bst (l.take (k + 1)) = (lk ++ List.replicate ((x.toNat + 1) * q) 0, q * 2)) := by
              unfold Hid
              rw [bst_zeros hkl (by rw [← HX.out]; exact h0), HQ.out, HX.out, HLK.out]
            obtain ⟨xn, rfl⟩ : ∃ xn : Nat, x = xn := ⟨x.toNat, by omega⟩
            obtain ⟨mm, hmm⟩ : ∃ mm, mm = (xn + 1) * q := ⟨_, rfl⟩
            have hm8 : mm ≤ 802 := by
              have : xn = 0 ∨ xn = 1 := by omega
              rcases this with rfl | rfl <;> omega
            have hmul : ((xn : Int) + 1) * (q : Int) = (mm : Int) := by rw [hmm]; simp
            rw [Int.toNat_natCast, ← hmm] at HZ1
            clear hmm
            go_wp2_with (at_builtin; refine wpList_append_zeros _ rfl (.tmp 28) (.tmp 32) 59 2 rfl w.heap.size 2 i0 Tryz.underlying59 Tryz.underlying2 hi0 hz0 hz1 hz2 _ _ _ rfl G1.out mm rfl (by omega) (by omega) ?_)
            intro v' w6 hown' hgrow
            have hown6 := OwnI.zeros hown'
            have b6 := hideZ (app_row GB.out (by omega) (Nat.le_refl _) G1.out hgrow)
            obtain ⟨l6, hl6⟩ : ∃ l6, l6 = lk ++ List.replicate mm 0 := ⟨_, rfl⟩
            rw [← hl6] at hown6 HZ1
            have N6 := hideZ hown6
            obtain ⟨a6, cap6, rfl, _, _⟩ := hown6.ints
            clear hown' hgrow hown6 hl6
            by_cases h4 : 400 < l6.length
            · have HE : Hid (backR l = []) := backR_long (k := k + 1) (by have := HLN.out; omega) (by rw [HZ1.out]; exact h4)
              have h4' : (400 : Int) < (l6.length : Int) := by omega
              go_wp2_with fail
              go_ret
              exact ⟨_, rfl, by rw [HE.out]; exact OwnI.nil _ _, b6.out⟩
            · have h4' : ¬ (400 : Int) < (l6.length : Int) := by omega
              go_wp2_with fail
              go_roundw
              case rel => exact ⟨k + 1, q * 2, by go_num, by go_num, by omega, by rw [HZ1.out], by rw [HZ1.out]; simp only; omega, by rw [HZ1.out]; exact N6.out, b6.out⟩
              case measure => simp [intOf]; omega
        · have hkn : k = l.length := by have := HLN.out; omega
          have HT : Hid (l.take k = l) := by
            unfold Hid
            rw [hkn, List.take_length]
          have HE : Hid (backR l = lk) := by
            unfold Hid
            rw [HLK.out, HT.out, backR_yes HNR.out (by rw [← HT.out, ← HLK.out]; exact h400)]
          clear hkn
          go_wp2_with fail
          go_ret
          exact ⟨_, rfl, by rw [HE.out]; exact G1.out, GB.out⟩
end Go.Proofs.YthbpenanelbbcaaGreatDoor.Ze


/- What impl's blockBack hands back. -/
namespace Go.Proofs.YthbpenanelbbcaaGreatDoor.Up
open Go.Proofs.YthbpenanelbbcaaGreatDoor.Pk
open Go.RowKit
open Go.Proofs.YthbpenanelbbcaaGreatDoor.Hf (up)
open Go.Proofs.YthbpenanelbbcaaGreatDoor.Bi (openR getR open_impl)
open Go.Proofs.YthbpenanelbbcaaGreatDoor.So (bwtA unR unR_case unbwt_impl tOut)
open Go.Proofs.YthbpenanelbbcaaGreatDoor.Fr (fbackR frontBack_impl)
open Go.Proofs.YthbpenanelbbcaaGreatDoor.Ze (backR zerosBack_impl backR_len)
open Go.Proofs.YthbpenanelbbcaaGreatDoor.In (Ints)
theorem ints_keep {w w' : World} {a : Option Addr} {l : List Int} (h : Ints w w.heap.size a l) (hb : Below w.heap.size w w') : Ints w' w'.heap.size a l := (h.below hb).mono hb.size
theorem lt_blk {w : World} {g : Nat} {x : Obj} (h : w.heap[g]? = some x) : g < w.heap.size := (Array.getElem?_eq_some_iff.1 h).1
theorem blk_keep {w w' : World} {g : Nat} {x : Obj} (h : w.heap[g]? = some x) (hb : Below w.heap.size w w') : w'.heap[g]? = some x := (hb.block g (lt_blk h)).trans h
theorem low_keep {w0 w w' : World} (h : Below w0.heap.size w0 w) (hb : Below w.heap.size w w') : Below w0.heap.size w0 w' := h.trans (hb.mono h.size)
def Glob (w : World) (ev : Value) : Prop := 0 < w.heap.size ∧ w.cell? ⟨0, 0, none⟩ = some ev
theorem glob_keep {w w' : World} {ev : Value} (h : Glob w ev) (hb : Below w.heap.size w w') : Glob w' ev := ⟨Nat.lt_of_lt_of_le h.1 hb.size, (hb.cell (p := ⟨0, 0, none⟩) h.1).trans h.2⟩
theorem glob_alloc {w : World} {ev : Value} {o : Obj} (h : Glob w ev) : (w.alloc o).cell? ⟨0, 0, none⟩ = some ev := (glob_keep h ((Below.refl _ _).alloc (Nat.le_refl _) o)).2
theorem four {W : World} {g : Nat} {x y z u : Value} {t : TypeId} (h : W.heap[g]? = some (.cells #[x, y, z, u] t (0, 0))) : W.cell? ⟨g, 0, none⟩ = some x ∧ W.cell? ⟨g, 1, none⟩ = some y ∧ W.cell? ⟨g, 2, none⟩ = some z ∧ W.cell? ⟨g, 3, none⟩ = some u :=
 ⟨cell_of_row W g 0 _ _ _ h, cell_of_row W g 1 _ _ _ h, cell_of_row W g 2 _ _ _ h, cell_of_row W g 3 _ _ _ h⟩
theorem openR_size (p : ByteArray) (m : Int) (hp : p.size ≤ 8000) : (openR p m).size ≤ 64000 := by
 by_cases h : 8000 < p.size ∨ m < 0 ∨ 8 * (p.size : Int) < m
 ·rw [Bi.openR_no _ _ h]
  decide
 ·obtain ⟨k, rfl⟩ := Int.eq_ofNat_of_zero_le (show 0 ≤ m by omega)
  rw [Bi.openR_yes _ _ (by omega) (by omega)]
  refine Nat.le_trans (Nat.le_of_eq (Sh.strF_size _ _)) ?_
  omega
theorem fback_len (l : List Int) : (fbackR l).length ≤ 400 := by
 cases h : Ze.numsR l 255 with
 | false => rw [Fr.fbackR_no h]; simp
 | true =>
  rw [Fr.fbackR_yes h]
  have h1 := Fr.kst_full l (Ze.upTo_yes (Ze.numsR_yes h).2) l.length (Nat.le_refl _)
  rw [List.take_length] at h1
  have := (Ze.numsR_yes h).1
  omega
theorem size_list (l : List UInt8) : (⟨l.toArray⟩ : ByteArray).size = l.length := by
 show l.toArray.size = _
 simp
theorem unR_size {t b : ByteArray} {a c : Int} (ht : t.size ≤ 400) (h : unR t a = .agg #[.string b, .int .i64 0, .int .i64 c]) : b.size ≤ 400 := by
 unfold unR tOut at h
 split at h
 ·simp at h
  rw [← h.1]
  decide
 ·split at h
  ·simp at h
   rw [← h.1]
   decide
  ·split at h
   ·simp at h
    rw [← h.1, So.backT_size]
    exact ht
   ·simp at h
    rw [← h.1]
    decide
set_option maxRecDepth 100000 in
set_option maxHeartbeats 4000000 in
theorem back_any (x0 x1 x2 x3 : Int) (l : List Int) (a : Option Addr) (cap n : Nat) (p : ByteArray) (ev : Value) (w : World) (hl : Ints w w.heap.size a l) (hn : n = l.length) (h4 : n ≤ 400) (hp : p.size ≤ 8000) (h0 : 0 < w.heap.size) (hg : w.cell? ⟨0, 0, none⟩ = some ev) :
  Calls Tryz.prog 89 #[.agg #[.int .i64 x0, .int .i64 x1, .int .i64 x2, .int .i64 x3], .slice a n cap, .string p] w fun e w' => (∃ r v, e = .returned (.tuple #[.string r, v]) ∧ (v = .nilIface ∨ v = ev) ∧ r.size ≤ 8000 ∧ ∀ s b, Good s b → l = up (lenS b) → x1 = ((bwtA b : Nat) : Int) → x2 = ((symS b).length : Int) → p = bitsS b → r = b ∧ v = .nilIface) ∧ Below w.heap.size w w' := by
 have HL := hideP hl
 have HN := hideP hn
 have HG : Hid (Glob w ev) := ⟨h0, hg⟩
 have BW := hideP (Below.refl w.heap.size w)
 clear hl hn hg
 go_enter Tryz.func89, Tryz.ntmps89
 go_wp2_with fail
 have hb1 : Below w.heap.size w (w.alloc (.cells #[.int .i64 x0, .int .i64 x1, .int .i64 x2, .int .i64 x3] 63)) := (Below.refl _ _).alloc (Nat.le_refl _) _
 have X : Hid ((w.alloc (.cells #[.int .i64 x0, .int .i64 x1, .int .i64 x2, .int .i64 x3] 63)).heap[w.heap.size]? = some (.cells #[.int .i64 x0, .int .i64 x1, .int .i64 x2, .int .i64 x3] 63 (0, 0))) := heap_alloc_new w _
 generalize hww : w.alloc (.cells #[.int .i64 x0, .int .i64 x1, .int .i64 x2, .int .i64 x3] 63) = w1 at hb1 X ⊢
 clear hww
 have HL_ := hideP (ints_keep HL.out hb1)
 have BW_ := hideP (low_keep BW.out hb1)
 have HG_ := hideP (glob_keep HG.out hb1)
 clear HL BW HG
 have HL := HL_
 clear HL_
 have BW := BW_
 clear BW_
 have HG := HG_
 clear HG_
 clear hb1
 generalize w.heap.size = gx at X ⊢
 refine (open_impl p _ w1 (by omega)).mono ?_
 rintro e w2 ⟨rfl, hb2⟩
 have HL_ := hideP (ints_keep HL.out hb2)
 have BW_ := hideP (low_keep BW.out hb2)
 have HG_ := hideP (glob_keep HG.out hb2)
 have X_ := hideP (blk_keep X.out hb2)
 clear HL BW HG X
 have HL := HL_
 clear HL_
 have BW := BW_
 clear BW_
 have HG := HG_
 clear HG_
 have X := X_
 clear X_
 clear hb2
 obtain ⟨bits, hbits⟩ : ∃ x, x = openR p (8 * (p.size : Int)) := ⟨_, rfl⟩
 rw [← hbits]
 have HBT := hideP hbits
 clear hbits
 have hsz : bits.size ≤ 64000 := by rw [HBT.out]; exact openR_size p _ hp
 obtain ⟨cx0, cx1, cx2, cx3⟩ := four X.out
 have HGI := hideP (fun (W : World) (h : Ints W W.heap.size a l) => Bi.get_impl l bits x2 a cap W h (by have := HN.out; omega) (by omega))
 obtain ⟨xl, xa, xc, hx⟩ : ∃ x y z, getR l bits x2 = (x, y, z) := ⟨_, _, _, rfl⟩
 have HX := hideP hx
 rw [hx, ← HN.out] at HGI
 clear hx
 go_wp2_with fail
 refine (HGI.out w2 HL.out).mono ?_
 rintro e w3 ⟨v, rfl, ho, hb3⟩
 clear cx0 cx1 cx2 cx3
 have HL_ := hideP (ints_keep HL.out hb3)
 have BW_ := hideP (low_keep BW.out hb3)
 have HG_ := hideP (glob_keep HG.out hb3)
 have X_ := hideP (blk_keep X.out hb3)
 clear HL BW HG X
 have HL := HL_
 clear HL_
 have BW := BW_
 clear BW_
 have HG := HG_
 clear HG_
 have X := X_
 clear X_
 clear hb3
 obtain ⟨ay, cy, hv, hi⟩ := In.OwnIn.ints ho
 obtain ⟨ny, hny⟩ : ∃ x, x = xl.length := ⟨_, rfl⟩
 rw [← hny] at hv
 subst hv
 have NY := hideP hny
 have IY := hideP hi
 clear hny hi ho HGI
 have ey : ny ≤ 400 := by
  have := Bi.getR_length l bits x2
  rw [HX.out] at this
  rw [NY.out]
  exact this
 have HEND : Hid (∀ (r : ByteArray) (v : Value), (∀ s b, Good s b → getR (up (lenS b)) (openR (bitsS b) (8 * ((bitsS b).size : Int))) ((symS b).length : Int) = (xl, xa, xc) → x1 = ((bwtA b : Nat) : Int) → r = b ∧ v = .nilIface) → ∀ s b, Good s b → l = up (lenS b) → x1 = ((bwtA b : Nat) : Int) → x2 = ((symS b).length : Int) → p = bitsS b → r = b ∧ v = .nilIface) := fun r v h s b hg h1 h2 h3 h5 => by
  refine h s b hg ?_ h2
  rw [← HX.out, HBT.out, h1, h3, h5]
 by_cases hc : xc = 0
 ·subst hc
  go_wp2_with fail
  have hb4 : Below w3.heap.size w3 (w3.alloc (.cells #[.slice ay ny cy, .int .i64 xa, .int .i64 0] 83)) := (Below.refl _ _).alloc (Nat.le_refl _) _
  generalize hww : w3.alloc (.cells #[.slice ay ny cy, .int .i64 xa, .int .i64 0] 83) = w4 at hb4 ⊢
  clear hww
  have HL_ := hideP (ints_keep HL.out hb4)
  have BW_ := hideP (low_keep BW.out hb4)
  have HG_ := hideP (glob_keep HG.out hb4)
  have X_ := hideP (blk_keep X.out hb4)
  have IY_ := hideP (ints_keep IY.out hb4)
  clear HL BW HG X IY
  have HL := HL_
  clear HL_
  have BW := BW_
  clear BW_
  have HG := HG_
  clear HG_
  have X := X_
  clear X_
  have IY := IY_
  clear IY_
  clear hb4
  have HZI := hideP (fun (W : World) (h : Ints W W.heap.size ay xl) => zerosBack_impl xl ay cy W.heap.size W h (Nat.le_refl _) (by have := NY.out; omega))
  rw [← NY.out] at HZI
  refine (HZI.out w4 IY.out).mono ?_
  rintro e w5 ⟨v5, rfl, ho5, hb5⟩
  have HL_ := hideP (ints_keep HL.out hb5)
  have BW_ := hideP (low_keep BW.out hb5)
  have HG_ := hideP (glob_keep HG.out hb5)
  have X_ := hideP (blk_keep X.out hb5)
  have IY_ := hideP (ints_keep IY.out hb5)
  clear HL BW HG X IY
  have HL := HL_
  clear HL_
  have BW := BW_
  clear BW_
  have HG := HG_
  clear HG_
  have X := X_
  clear X_
  have IY := IY_
  clear IY_
  clear hb5
  obtain ⟨az, cz, hv, _, hi⟩ := ho5.ints
  obtain ⟨nz, hnz⟩ : ∃ x, x = (backR xl).length := ⟨_, rfl⟩
  rw [← hnz] at hv
  subst hv
  have NZ := hideP hnz
  have IZ := hideP hi
  clear hnz hi ho5
  have ez : nz ≤ 400 := by rw [NZ.out]; exact backR_len _
  have HFI := hideP (fun (W : World) (h : Ints W W.heap.size az (backR xl)) => frontBack_impl (backR xl) az cz W.heap.size W h (Nat.le_refl _) (by have := NZ.out; omega))
  rw [← NZ.out] at HFI
  go_wp2_with fail
  refine (HFI.out w5 IZ.out).mono ?_
  rintro e w6 ⟨rfl, hb6⟩
  have HL_ := hideP (ints_keep HL.out hb6)
  have BW_ := hideP (low_keep BW.out hb6)
  have HG_ := hideP (glob_keep HG.out hb6)
  have X_ := hideP (blk_keep X.out hb6)
  have IY_ := hideP (ints_keep IY.out hb6)
  clear HL BW HG X IY
  have HL := HL_
  clear HL_
  have BW := BW_
  clear BW_
  have HG := HG_
  clear HG_
  have X := X_
  clear X_
  have IY := IY_
  clear IY_
  clear hb6
  have hfs : (fbackR (backR xl)).length ≤ 400 := fback_len _
  obtain ⟨tx, htx⟩ : ∃ x : ByteArray, x = ⟨(fbackR (backR xl)).toArray⟩ := ⟨_, rfl⟩
  have hts : tx.size ≤ 400 := by rw [htx, size_list]; exact hfs
  rw [← htx]
  have HTX := hideP htx
  clear htx hfs
  obtain ⟨cx0, cx1, cx2, cx3⟩ := four X.out
  go_wp2_with fail
  refine (unbwt_impl tx x1 w6 (by omega)).mono ?_
  rintro e w7 ⟨rfl, hb7⟩
  clear cx0 cx1 cx2 cx3
  have HL_ := hideP (ints_keep HL.out hb7)
  have BW_ := hideP (low_keep BW.out hb7)
  have HG_ := hideP (glob_keep HG.out hb7)
  have X_ := hideP (blk_keep X.out hb7)
  have IY_ := hideP (ints_keep IY.out hb7)
  clear HL BW HG X IY
  have HL := HL_
  clear HL_
  have BW := BW_
  clear BW_
  have HG := HG_
  clear HG_
  have X := X_
  clear X_
  have IY := IY_
  clear IY_
  clear hb7
  obtain ⟨yb, yc, hy⟩ := unR_case tx x1
  have HY := hideP hy
  have HYS : Hid (yb.size ≤ 400) := unR_size (by omega) hy
  rw [hy]
  clear hy
  have HTT : Hid (∀ s b, Good s b → getR (up (lenS b)) (openR (bitsS b) (8 * ((bitsS b).size : Int))) ((symS b).length : Int) = (xl, xa, 0) → x1 = ((bwtA b : Nat) : Int) → yb = b ∧ yc = 0) := fun s b hg h1 h2 => by
   rw [bits_back hg] at h1
   have e1 : symS b = xl := congrArg Prod.fst h1
   have h3 := block_back hg.1
   rw [e1, ← HTX.out, ← h2, HY.out] at h3
   unfold tOut at h3
   simp at h3
   exact h3
  by_cases hyc : yc = 0
  ·subst hyc
   go_wp2_with fail
   go_ret2
   refine ⟨⟨yb, .nilIface, rfl, .inl rfl, by have := HYS.out; omega, HEND.out _ _ fun s b h1 h2 h3 => ⟨(HTT.out s b h1 h2 h3).1, rfl⟩⟩, ?_⟩
   exact low_keep BW.out ((Below.refl _ _).alloc (Nat.le_refl _) _)
  ·have hyc' : (yc != 0) = true := by simp; exact hyc
   have gcell := fun o => glob_alloc (w := w7) (o := o) HG.out
   go_wp2_with fail
   go_quiet (fail)
   go_wp2_with fail
   go_ret2
   refine ⟨⟨⟨#[]⟩, ev, rfl, .inr rfl, by decide, HEND.out _ _ fun s b h1 h2 h3 => absurd (HTT.out s b h1 h2 h3).2 hyc⟩, ?_⟩
   exact below_drewN (low_keep BW.out ((Below.refl _ _).alloc (Nat.le_refl _) _)) _
 ·have hc' : (xc != 0) = true := by simp; exact hc
  have gcell := fun o => glob_alloc (w := w3) (o := o) HG.out
  go_wp2_with fail
  go_quiet (fail)
  go_wp2_with fail
  go_ret2
  refine ⟨⟨⟨#[]⟩, ev, rfl, .inr rfl, by decide, HEND.out _ _ fun s b h1 h2 _ => ?_⟩, ?_⟩
  ·rw [bits_back h1] at h2
   exact absurd (congrArg (fun q => q.2.2) h2).symm hc
  ·exact below_drewN (low_keep BW.out ((Below.refl _ _).alloc (Nat.le_refl _) _)) _
end Go.Proofs.YthbpenanelbbcaaGreatDoor.Up

