/- Texts put together: DrawText5, DrawSort, FrontO, FrontOS, DrawFb. -/
import Derived.Test.YthbpenanelbbcaaGreatDoorBz38
import Derived.Test.YthbpenanelbbcaaGreatDoorBz14
import Derived.Test.YthbpenanelbbcaaGreatDoorBz37
import Derived.Test.YthbpenanelbbcaaGreatDoorBz9
import Derived.WalkMore
import Derived.Scope
import Derived.Test.YthbpenanelbbcaaGreatDoorBz19
import Derived.Test.YthbpenanelbbcaaGreatDoorBz30
/- The drawn texts of the laws on sorted blocks; weak on purpose: some short text. -/
namespace Go.Proofs.YthbpenanelbbcaaGreatDoor.Dr
open Go.RowKit
open Go.Proofs.YthbpenanelbbcaaGreatDoor.St (IsS)
def six5 : List ByteArray := [⟨#[]⟩, ⟨#[98, 97, 110, 97, 110, 97]⟩, ⟨#[97, 98, 97, 98]⟩, ⟨#[97, 97, 97, 97, 97, 97, 97, 97, 97, 97, 97, 97, 97, 97, 97, 97]⟩, ⟨#[97, 98, 114, 97, 99, 97, 100, 97, 98, 114, 97, 32, 97, 98, 114, 97, 99, 97, 100, 97, 98, 114, 97]⟩, ⟨#[97, 98]⟩]
def five5 : List ByteArray := [⟨#[97]⟩, ⟨#[98]⟩, ⟨#[97, 98]⟩, ⟨#[116, 104, 101, 32]⟩, ⟨#[97, 97, 97, 97]⟩]
theorem six5_is (W : World) (t : TypeId) : IsS (W.alloc (.cells #[.string ⟨#[]⟩, .string ⟨#[98, 97, 110, 97, 110, 97]⟩, .string ⟨#[97, 98, 97, 98]⟩, .string ⟨#[97, 97, 97, 97, 97, 97, 97, 97, 97, 97, 97, 97, 97, 97, 97, 97]⟩, .string ⟨#[97, 98, 114, 97, 99, 97, 100, 97, 98, 114, 97, 32, 97, 98, 114, 97, 99, 97, 100, 97, 98, 114, 97]⟩, .string ⟨#[97, 98]⟩] t)) W.heap.size t six5 := heap_alloc_last W _
theorem five5_is (W : World) (t : TypeId) : IsS (W.alloc (.cells #[.string ⟨#[97]⟩, .string ⟨#[98]⟩, .string ⟨#[97, 98]⟩, .string ⟨#[116, 104, 101, 32]⟩, .string ⟨#[97, 97, 97, 97]⟩] t)) W.heap.size t five5 := heap_alloc_last W _
theorem six5_le (s : ByteArray) (h : s ∈ six5) : s.size ≤ 23 := by
 simp only [six5, List.mem_cons, List.not_mem_nil, or_false] at h
 rcases h with rfl | rfl | rfl | rfl | rfl | rfl <;> decide
theorem five5_le (s : ByteArray) (h : s ∈ five5) : s.size ≤ 4 := by
 simp only [five5, List.mem_cons, List.not_mem_nil, or_false] at h
 rcases h with rfl | rfl | rfl | rfl | rfl <;> decide
set_option maxRecDepth 100000 in
set_option maxHeartbeats 4000000 in
theorem text5_any (B : Nat) (a : Option Addr) (len cap : Nat) (w : World) (hl : len ≤ 1048576) (hs : Src w B a len cap) :
  Calls Tryz.prog 38 #[.pointer (some ⟨B, 0, none⟩)] w fun e w' => ∃ s : ByteArray, s.size ≤ 32 ∧ e = .returned (.string s) ∧ Src w' B a len cap ∧ Aft B w w' := by
 have hB := hs.lt
 have HS := hideD hs
 clear hs
 go_enter Tryz.func38, Tryz.ntmps38
 go_wp2_with fail
 refine (n_any B a len cap 5 _ hl (by omega) HS.out).mono ?_
 rintro e w1 ⟨r, rfl, q0, q1, hs1, ho1⟩
 have HS1 := hideD hs1
 have HO1 := hideD ho1
 clear hs1 ho1
 by_cases h0 : r = 0
 ·subst h0
  go_wp2_with fail
  refine (n_any B a len cap 12 _ hl (by omega) HS1.out).mono ?_
  rintro e w2 ⟨r2, rfl, p0, p1, hs2, ho2⟩
  obtain ⟨m, rfl⟩ := Int.eq_ofNat_of_zero_le p0
  have HB2 := hideD (bytes_any B a len cap m w2 hl (by omega) hs2)
  have HA2 := hideD ((HO1.out.trans ho2).aft)
  have hm32 : m ≤ 32 := by omega
  clear hs2 ho2 p0 p1
  go_wp2_with fail
  refine HB2.out.mono ?_
  rintro e w3 ⟨l, hlen, rfl, hs3, ha3⟩
  have HX : Hid (∃ s : ByteArray, s.size ≤ 32 ∧ Ending.returned (.string ⟨l.toArray⟩) = .returned (.string s) ∧ Src w3 B a len cap ∧ Aft B w w3) := ⟨⟨l.toArray⟩, by rw [show (⟨l.toArray⟩ : ByteArray).size = l.length from by simp [ByteArray.size], hlen]; exact hm32, rfl, hs3, HA2.out.trans ha3⟩
  clear hs3 ha3 hlen
  go_wp2_with fail
  go_ret
  exact HX.out
 ·by_cases h1 : r = 1
  ·subst h1
   have HP := hideD (fun W (h : Src W B a len cap) => pick_any B W.heap.size 6 a len cap 9 six5 (W.alloc (.cells #[.string ⟨#[]⟩, .string ⟨#[98, 97, 110, 97, 110, 97]⟩, .string ⟨#[97, 98, 97, 98]⟩, .string ⟨#[97, 97, 97, 97, 97, 97, 97, 97, 97, 97, 97, 97, 97, 97, 97, 97]⟩, .string ⟨#[97, 98, 114, 97, 99, 97, 100, 97, 98, 114, 97, 32, 97, 98, 114, 97, 99, 97, 100, 97, 98, 114, 97]⟩, .string ⟨#[97, 98]⟩] 9)) hl (h.below ((Below.refl _ _).alloc (Nat.le_refl _) _)) (six5_is W _) (by have := h.lt; omega) (by decide) (by decide))
   go_wp2_with fail
   refine (HP.out w1 HS1.out).mono ?_
   rintro e w2 ⟨s, hm, rfl, hs2, ho2⟩
   have HX : Hid (∃ s' : ByteArray, s'.size ≤ 32 ∧ Ending.returned (.string s) = .returned (.string s') ∧ Src w2 B a len cap ∧ Aft B w w2) := ⟨s, Nat.le_trans (six5_le s hm) (by decide), rfl, hs2, (HO1.out.aft.trans (aft_below ((Below.refl _ _).alloc (Nat.le_refl _) _))).trans ho2.aft⟩
   clear hs2 ho2 hm
   go_wp2_with fail
   go_ret
   exact HX.out
  ·have e0 : (r == 0) = false := beq_eq_false_iff_ne.2 h0
   have e1 : (r == 1) = false := beq_eq_false_iff_ne.2 h1
   have HP := hideD (fun W (h : Src W B a len cap) => pick_any B W.heap.size 5 a len cap 9 five5 (W.alloc (.cells #[.string ⟨#[97]⟩, .string ⟨#[98]⟩, .string ⟨#[97, 98]⟩, .string ⟨#[116, 104, 101, 32]⟩, .string ⟨#[97, 97, 97, 97]⟩] 9)) hl (h.below ((Below.refl _ _).alloc (Nat.le_refl _) _)) (five5_is W _) (by have := h.lt; omega) (by decide) (by decide))
   clear h0 h1
   go_wp2_with fail
   refine (n_any B a len cap 8 _ hl (by omega) HS1.out).mono ?_
   rintro e w2 ⟨r2, rfl, p0, p1, hs2, ho2⟩
   obtain ⟨m, rfl⟩ := Int.eq_ofNat_of_zero_le p0
   have HS2 := hideD hs2
   have HA2 := hideD ((HO1.out.trans ho2).aft)
   have hm7 : m ≤ 7 := by omega
   clear hs2 ho2 p0 p1
   go_wp2_with fail
   go_loopw [4, 3] (fun i u wr => ∃ (k : Nat) (s : ByteArray), i = .int .i64 k ∧ k ≤ 7 ∧ u = .string s ∧ s.size + 4 * k ≤ 28 ∧ Src wr B a len cap ∧ Aft B w wr) (fun i _ _ => (intOf i).toNat)
   case atStart => exact ⟨m, ⟨#[]⟩, rfl, hm7, rfl, by simp [ByteArray.size]; omega, HS2.out, HA2.out⟩
   case round =>
    obtain ⟨k, s, rfl, hk, rfl, hsz, hs3, ha3⟩ := hrel
    have HS3 := hideD hs3
    have HA3 := hideD ha3
    clear hs3 ha3
    by_cases hlt : 0 < k
    ·obtain ⟨kp, hkp⟩ : ∃ kp, k = kp + 1 := ⟨k - 1, by omega⟩
     have ek : (k : Int) - 1 = (kp : Int) := by omega
     have HK := hideD hkp
     have hkz : (0 : Int) < (k : Int) := by omega
     clear hkp
     go_wp2_with fail
     refine (HP.out wr HS3.out).mono ?_
     rintro e w4 ⟨s4, hm4, rfl, hs4, ho4⟩
     have HS4 := hideD hs4
     have HA4 := hideD ((HA3.out.trans (aft_below ((Below.refl _ _).alloc (Nat.le_refl _) _))).trans ho4.aft)
     have HL4 : Hid ((s ++ s4).size + 4 * kp ≤ 28) := by
      unfold Hid
      rw [ByteArray.size_append]
      have := five5_le s4 hm4
      have := HK.out
      omega
     have hs4z := five5_le s4 hm4
     clear hs4 ho4 hm4
     go_wp2_with fail
     go_roundw
     case rel => exact ⟨kp, s ++ s4, by go_num, by have := HK.out; omega, rfl, HL4.out, HS4.out, HA4.out⟩
     case measure => have := HK.out; simp [intOf]; omega
    ·obtain rfl : k = 0 := by omega
     have HX : Hid (∃ s' : ByteArray, s'.size ≤ 32 ∧ Ending.returned (.string s) = .returned (.string s') ∧ Src wr B a len cap ∧ Aft B w wr) := ⟨s, by omega, rfl, HS3.out, HA3.out⟩
     go_wp2_with fail
     go_ret
     exact HX.out
end Go.Proofs.YthbpenanelbbcaaGreatDoor.Dr


/- The drawn texts of the law on sorted blocks: what is drawn for Bwt and for FrontOf. -/
namespace Go.Proofs.YthbpenanelbbcaaGreatDoor.Dr
open Go.RowKit
open Go.Proofs.YthbpenanelbbcaaGreatDoor.Sh (made_row strF strF_size)
set_option maxRecDepth 100000 in
set_option maxHeartbeats 2000000 in
theorem some5_any (B : Nat) (a : Option Addr) (len cap : Nat) (w : World) (hl : len ≤ 1048576) (hs : Src w B a len cap) :
  Calls Tryz.prog 18 #[.pointer (some ⟨B, 0, none⟩)] w fun e w' => ∃ s : ByteArray, s.size ≤ 50 ∧ e = .returned (.string s) ∧ Src w' B a len cap ∧ Aft B w w' := by
 obtain ⟨i0, hi0, hz0, hz1, hz2⟩ := info_parts Tryz.infoD5
 have HS := hideD hs
 clear hs
 go_enter Tryz.func18, Tryz.ntmps18
 go_wp2_with fail
 refine (one_any B a len cap 15 _ hl (by omega) HS.out).mono ?_
 rintro e w1 ⟨r, rfl, hs1, ho1⟩
 have HS1 := hideD hs1
 have HO1 := hideD ho1
 clear hs1 ho1
 cases r with
 | true =>
  go_wp2_with fail
  refine (n_any B a len cap 3 _ hl (by omega) HS1.out).mono ?_
  rintro e w2 ⟨r2, rfl, p0, p1, hs2, ho2⟩
  obtain ⟨m, rfl⟩ := Int.eq_ofNat_of_zero_le p0
  obtain ⟨n, hn⟩ : ∃ n : Nat, n = 47 + m := ⟨_, rfl⟩
  have en : 47 + (m : Int) = (n : Int) := by omega
  have hn50 : n ≤ 50 := by omega
  have HS2 := hideD hs2
  have HA2 := hideD (HO1.out.trans ho2).aft
  clear hs2 ho2 p0 p1 hn
  go_wp2_with (at_make; refine wpList_make_full _ rfl (.tmp 7) (.tmp 7) 22 rfl w2.heap.size 5 i0 (.int .u8 0) 1 Tryz.underlying22 hi0 hz0 hz1 .i64 .i64 _ _ n rfl rfl (by simp) (by simp) (by rw [hz2]; omega) (by unfold maxLen; omega) (Nat.le_refl _) ?_; intro w3 hown3 hgrow3; have hT3 := made_row hown3; have hb3 := (Below.refl w2.heap.size w2).grown hgrow3 (Nat.le_refl _) (by simp); have hcv := hT3.str (f := fun _ => 0) (P := Tryz.prog) (src := 22) (dst := 9) n n (Nat.le_refl _) (fun j _ => by decide) Tryz.underlying22 Tryz.underlying5 Tryz.underlying9; have HS3 := hideD (HS2.out.below hb3); have HA3 := hideD (HA2.out.trans (aft_below hb3)); clear hown3 hgrow3 hT3 hb3)
  go_ret
  exact ⟨_, by rw [strF_size]; exact hn50, rfl, HS3.out, HA3.out⟩
 | false =>
  go_wp2_with fail
  refine (text5_any B a len cap _ hl HS1.out).mono ?_
  rintro e w2 ⟨s, hs, rfl, hs2, ha2⟩
  have HX : Hid (∃ s' : ByteArray, s'.size ≤ 50 ∧ Ending.returned (.string s) = .returned (.string s') ∧ Src w2 B a len cap ∧ Aft B w w2) := ⟨s, by omega, rfl, hs2, HO1.out.aft.trans ha2⟩
  clear hs2 ha2
  go_wp2_with fail
  go_ret
  exact HX.out
end Go.Proofs.YthbpenanelbbcaaGreatDoor.Dr


/- What the program's FrontOf answers. -/
namespace Go.Proofs.YthbpenanelbbcaaGreatDoor.Fr
open Go.RowKit
open Go.Proofs.YthbpenanelbbcaaGreatDoor.Sh (IsB rowF upd made_row bt bt_get)
open Go.Proofs.YthbpenanelbbcaaGreatDoor.Ze (hideZ)
open Go.Proofs.YthbpenanelbbcaaGreatDoor.St (Aft)
open Go.Proofs.YthbpenanelbbcaaGreatDoor.In (Ints IsI OwnI made_ints)
open Go.Proofs.YthbpenanelbbcaaGreatDoor.In.Tryz (infoI2)
def padI (xs : List Int) (n : Nat) : List Int := xs ++ List.replicate (n - xs.length) 0
theorem padI_len (xs : List Int) (n : Nat) (h : xs.length ≤ n) : (padI xs n).length = n := by simp [padI]; omega
theorem padI_next (xs : List Int) (n : Nat) (v : Int) (h : xs.length < n) : (padI xs n).set xs.length v = padI (xs ++ [v]) n := by
 unfold padI
 rw [List.set_append_right _ _ (Nat.le_refl _), Nat.sub_self, List.append_assoc]
 congr 1
 obtain ⟨m, hm⟩ : ∃ m, n - xs.length = m + 1 := ⟨n - xs.length - 1, by omega⟩
 rw [hm, List.replicate_succ, List.length_append, List.length_singleton, show n - (xs.length + 1) = m by omega]
 rfl
theorem padI_all (xs : List Int) : padI xs xs.length = xs := by simp [padI]
theorem list_get (t : ByteArray) (k : Nat) (h : k < t.size) : ∃ h' : k < t.data.toList.length, t.data.toList[k] = t[k] := ⟨by simpa using h, by simp [ByteArray.getElem_eq_getElem_data]⟩
theorem row_own {w : World} {g base : Nat} {l : List Int} (h : IsI w g 2 l) (hb : base ≤ g) (hm : l.length ≤ maxLen) : OwnI w base (.slice (some ⟨g, 0, none⟩) l.length l.length) l :=
 ⟨by simp, .inr ⟨g, l.length, _, rfl, hb, h, Nat.le_refl _, hm, by simp [In.irow], by rw [List.take_of_length_le (by simp [In.irow])]; simp [In.irow]⟩⟩
theorem below_drewN {B : Nat} {w w' : World} (h : Below B w w') (n : Nat) : Below B w (w'.drewN n) := ⟨h.os, h.tape, h.output, h.size, h.block⟩
theorem isI_of_heap {w w' : World} {g t : Nat} {l : List Int} (h : IsI w g t l) (e : w'.heap[g]? = w.heap[g]?) : IsI w' g t l := by
 unfold IsI
 rw [e]
 exact h
set_option maxRecDepth 100000 in
set_option maxHeartbeats 1000000 in
theorem frontOf_impl (t : ByteArray) (w : World) (hn : t.size ≤ 1048576) :
  Calls Tryz.prog 43 #[.string t] w fun e w' => ∃ v, e = .returned v ∧ OwnI w' w.heap.size v (frontR t.data.toList) ∧ Below w.heap.size w w' := by
 obtain ⟨i0, hi0, hz0, hz1, hz2⟩ := info_parts infoI2
 have hdl : t.data.toList.length = t.size := by simp
 by_cases hlong : 400 < t.size
 ·rw [frontR_no (by omega)]
  clear hdl
  go_enter Tryz.func43, Tryz.ntmps43
  go_wp2_with fail
  go_step3
  go_wp2_with fail
  try rw [Exit.noGoto_ret]
  go_ret
  exact ⟨_, rfl, OwnI.nil _ _, Below.refl _ _⟩
 ·rw [frontR_yes (by omega)]
  have HDL := hideZ hdl
  clear hdl
  have hlong' : ¬ (400 : Int) < (t.size : Int) := by omega
  go_enter Tryz.func43, Tryz.ntmps43
  go_wp2_with fail
  go_step3
  go_wp2_with fail
  refine (rising_impl w).mono ?_
  rintro e w1 ⟨rfl, hb1⟩
  have HB1 := hideZ hb1
  have z1 := hb1.size
  clear hb1
  obtain ⟨n, hln⟩ : ∃ n, n = t.size := ⟨_, rfl⟩
  go_wp2_with (first | ((with_reducible refine wpList_alloc_row Tryz.zeroA97 ?_); intro w2 hb2 hbel2 hs2 ho2; have G2 := hideZ hb2; have HB2 := hideZ (HB1.out.trans (hbel2 _ z1)); clear hb2 hbel2 ho2) | ((with_reducible refine Sh.wpList_store_row' G2.out Tryz.sizeA97 row0 ?_ ?_ ?_); (· rfl); (· rfl); intro w3 hb3 hbel3 hs3 ho3; have G3 := hideZ hb3; have HB3 := hideZ (HB2.out.trans (hbel3 _ z1)); clear hb3 hbel3 ho3) | (at_make; refine wpList_make_full _ rfl (.tmp 12) (.tmp 12) 59 rfl w3.heap.size 2 i0 (.int .i64 0) 1 Tryz.underlying59 hi0 hz0 hz1 .i64 .i64 _ _ t.size rfl rfl (by simp) (by simp) (by rw [hz2]; omega) (by unfold maxLen; omega) (Nat.le_refl _) ?_; intro w4 hown4 hgrow4; have HR4 := hideZ (made_ints hown4); have hb4 := (Below.refl w3.heap.size w3).grown hgrow4 (Nat.le_refl _) (by simp); have G4 := hideZ (G3.out.below hb4 (by omega)); have HB4 := hideZ (HB3.out.trans (hb4.mono (by omega))); clear hown4 hgrow4 hb4))
  go_step3
  go_wp2_with fail
  clear hln n
  obtain ⟨g1, hg1⟩ : ∃ g1, g1 = w1.heap.size := ⟨_, rfl⟩
  have e3 : w3.heap.size = w1.heap.size + 1 := by omega
  rw [e3] at HR4
  have hgw : w.heap.size ≤ g1 := by omega
  rw [← hg1] at G4 HR4 ⊢
  obtain ⟨g2, hg2⟩ : ∃ g2, g2 = g1 + 1 := ⟨_, rfl⟩
  have hg12 : g1 < g2 := by omega
  rw [← hg2] at HR4 ⊢
  clear e3 hg1 hg2 hs2 hs3 z1
  obtain ⟨l, hl⟩ : ∃ l, l = t.data.toList := ⟨_, rfl⟩
  rw [← hl] at HDL
  have HL := hideZ hl
  clear hl
  go_loopw [16] (fun i wr => ∃ k : Nat, i = .int .i64 k ∧ k ≤ t.size ∧ IsB wr g1 97 .u8 256 (fst' (l.take k)).2 ∧ IsI wr g2 2 (padI (fst' (l.take k)).1 t.size) ∧ Below w.heap.size w wr) (fun i _ => t.size - (intOf i).toNat)
  case atStart => exact ⟨0, rfl, Nat.zero_le _, G4.out, by simpa [padI, fst'] using HR4.out, HB4.out⟩
  case round =>
   obtain ⟨k, rfl, hk, hrow, hpl, hbel⟩ := hrel
   obtain ⟨hfull, hlen⟩ := fst_full l k (by have := HDL.out; omega)
   have R1 := hideZ hrow
   have T1 := hideZ hpl
   have GB := hideZ hbel
   clear hbel
   by_cases hlt : k < t.size
   ·obtain ⟨hkl', hget⟩ := list_get t k hlt
    have hkl : k < l.length := by rw [HDL.out]; exact hlt
    have hge : l[k] = t[k] := by
     have := HL.out
     subst this
     exact hget
    have HM := hideZ (fst_more hkl)
    rw [hge] at HM
    obtain ⟨c, hc⟩ : ∃ c : UInt8, t[k] = c := ⟨_, rfl⟩
    rw [hc] at HM
    obtain ⟨f, hf⟩ : ∃ f, f = (fst' (l.take k)).2 := ⟨_, rfl⟩
    obtain ⟨ps, hps⟩ : ∃ ps, ps = (fst' (l.take k)).1 := ⟨_, rfl⟩
    rw [← hf] at R1 HM hfull
    rw [← hps] at T1 HM hlen
    have hlk := look_some hfull (c := c.toNat) (UInt8.toNat_lt _)
    obtain ⟨q, hq⟩ : ∃ q, q = look f c.toNat := ⟨_, rfl⟩
    rw [← hq] at hlk HM
    have hq256 := hlk.1
    have HLK := hideZ hlk.2
    have HLE := hideZ hlen
    have HFU := hideZ hfull
    clear hget hge hf hps hrow hpl hfull hlen hlk hq
    go_wp2_with fail
    go_loopw [19] (fun i wr2 => ∃ p : Nat, i = .int .i64 p ∧ p ≤ q ∧ IsB wr2 g1 97 .u8 256 f ∧ IsI wr2 g2 2 (padI ps t.size) ∧ Below w.heap.size w wr2) (fun i _ => q - (intOf i).toNat)
    case atStart => exact ⟨0, rfl, Nat.zero_le _, R1.out, T1.out, GB.out⟩
    case round =>
     obtain ⟨p, rfl, hp, hrow2, hpl2, hbel2⟩ := hrel
     have R2 := hideZ hrow2
     have T2 := hideZ hpl2
     have GB2 := hideZ hbel2
     have c1 := hrow2.cell (j := p) (by omega)
     have hbnd := HFU.out.2 p (by omega)
     obtain ⟨y, hy⟩ : ∃ y, y = f p := ⟨_, rfl⟩
     rw [← hy] at c1 hbnd
     have HY := hideZ hy
     clear hrow2 hpl2 hbel2 hy
     by_cases hpq : p = q
     ·have hyc : (y == ((c.toNat : Nat) : Int)) = true := beq_iff_eq.2 (by rw [HY.out, hpq]; exact HLK.out.1)
      have hq1 : q < 256 := hq256
      have c2 := T2.out.cell (j := k) (by rw [padI_len _ _ (by have := HLE.out; omega)]; exact hlt)
      have f2 := T2.out.frozen k
      have HT3 : Hid (∀ nq, IsI ((wr.drewN nq).setCell ⟨g2, k, none⟩ (.int .i64 p)) g2 2 (padI (ps ++ [(p : Int)]) t.size)) := fun nq => by
       have h1 : IsI (wr.drewN nq) g2 2 (padI ps t.size) := T2.out
       have h2 := h1.set k (p : Int)
       have h3 := padI_next ps t.size (p : Int) (by have := HLE.out; omega)
       rw [HLE.out] at h3
       rw [h3] at h2
       exact h2
      have HR3 : Hid (∀ nq, IsB ((wr.drewN nq).setCell ⟨g2, k, none⟩ (.int .i64 p)) g1 97 .u8 256 f) := fun nq => by
       have h1 : IsB (wr.drewN nq) g1 97 .u8 256 f := R2.out
       exact h1.set_other _ _ (by simp; omega)
      have HBr := hideZ (fun nq => bring_impl g1 p 97 f _ (HR3.out nq) (by omega))
      have HB3' : Hid (∀ nq, Below w.heap.size w ((wr.drewN nq).setCell ⟨g2, k, none⟩ (.int .i64 p))) := fun nq => (below_drewN GB2.out nq).setCell (p := ⟨g2, k, none⟩) (by simp; omega) _
      rw [← hpq] at HM
      clear hpq
      go_wp2_with fail
      go_quiet (fail)
      all_goals (try go_wp2_with fail)
      refine (HBr.out _).mono ?_
      rintro e w5 ⟨rfl, hb5, ha5⟩
      have G5 := hideZ hb5
      have T5 := hideZ (isI_of_heap (HT3.out _) (ha5.2.2.2.2 g2 (HT3.out _).lt (by omega)))
      have B5 := hideZ (Aft.below (HB3'.out _) ha5 (by omega) (by have := (HT3.out nq).lt; omega))
      clear hb5 ha5
      go_wp2_with fail
      go_roundw
      case rel => exact ⟨k + 1, by go_num, by omega, by rw [HM.out]; exact G5.out, by rw [HM.out]; exact T5.out, B5.out⟩
      case measure => simp [intOf]; omega
     ·have hyc : (y == ((c.toNat : Nat) : Int)) = false := beq_eq_false_iff_ne.2 (by rw [HY.out]; exact HLK.out.2 p (by omega))
      go_wp2_with fail
      go_quiet (fail)
      all_goals (try go_wp2_with fail)
      go_roundw
      case rel => exact ⟨p + 1, by go_num, by omega, R2.out, T2.out, below_drewN GB2.out _⟩
      case measure => simp [intOf]; omega
   ·obtain rfl : k = t.size := by omega
    have HT : Hid (l.take t.size = l) := by
     unfold Hid
     rw [← HDL.out, List.take_length]
    rw [HT.out] at hpl hlen
    have hpa : padI (fst' l).1 t.size = (fst' l).1 := by
     rw [← hlen]
     exact padI_all _
    rw [hpa] at hpl
    have HV := hideZ (row_own (base := w.heap.size) hpl (by omega) (by unfold maxLen; omega))
    rw [hlen] at HV
    have HLL := HL.out
    rw [HLL] at HV
    clear hrow hpl hfull hlen hpa HLL
    go_wp2_with fail
    try rw [Exit.noGoto_ret]
    go_ret
    exact ⟨_, rfl, HV.out, GB.out⟩
end Go.Proofs.YthbpenanelbbcaaGreatDoor.Fr


/- What the specification's FrontOf answers. -/
namespace Go.Proofs.YthbpenanelbbcaaGreatDoor.Fr
open Go.RowKit
open Go.Proofs.YthbpenanelbbcaaGreatDoor.Sh (IsB rowF upd made_row bt bt_get)
open Go.Proofs.YthbpenanelbbcaaGreatDoor.Ze (hideZ)
open Go.Proofs.YthbpenanelbbcaaGreatDoor.St (Aft)
open Go.Proofs.YthbpenanelbbcaaGreatDoor.In (Ints IsI OwnI one_newI one_cellI)
open Go.Proofs.YthbpenanelbbcaaGreatDoor.In.Tryz (infoI2)
open Go.Proofs.YthbpenanelbbcaaGreatDoor.Ap (Own0 wpList_append_own0)
def Own0I (w : World) (lit base : Nat) (v : Value) (l : List Int) : Prop :=
 w.heap[lit]? = some (.cells #[] 2 (0, 0)) ∧ ((v = .slice (some ⟨lit, 0, none⟩) 0 0 ∧ l = []) ∨ OwnI w base v l)
theorem Own0I.own0 {w : World} {lit base : Nat} {v : Value} {l : List Int} (h : Own0I w lit base v l) : Own0 w base 2 1 v l.length (l.map (Value.int .i64)) := by
 rcases h.2 with ⟨rfl, rfl⟩ | h
 ·exact .inl ⟨_, rfl, rfl, rfl⟩
 ·exact .inr h
theorem Own0I.done {w : World} {lit base : Nat} {v : Value} {l : List Int} (h : Own0I w lit base v l) (hb : lit ≤ base) : OwnI w lit v l := by
 obtain ⟨he, ⟨rfl, rfl⟩ | h⟩ := h
 ·exact ⟨rfl, .inr ⟨lit, 0, #[], rfl, Nat.le_refl _, he, Nat.le_refl _, by decide, rfl, rfl⟩⟩
 ·exact h.mono hb
theorem Own0I.keep {w w' : World} {lit base : Nat} {v : Value} {l : List Int} (h : Own0I w lit base v l) (hl : w'.heap[lit]? = w.heap[lit]?) (b : ∀ k, base ≤ k → k < w.heap.size → w'.heap[k]? = w.heap[k]?) : Own0I w' lit base v l := by
 refine ⟨hl.trans h.1, ?_⟩
 rcases h.2 with h | ⟨hl, h⟩
 ·exact .inl h
 ·refine .inr ⟨hl, ?_⟩
  rcases h with h | ⟨g, cap, cur, hv, hg, hb, rest⟩
  ·exact .inl h
  ·exact .inr ⟨g, cap, cur, hv, hg, by rw [b g hg (Array.getElem?_eq_some_iff.1 hb).1]; exact hb, rest⟩
set_option maxRecDepth 100000 in
set_option maxHeartbeats 1000000 in
theorem frontOf_spec (t : ByteArray) (w : World) (hn : t.size ≤ 1048576) :
  Calls Tryz.prog 92 #[.string t] w fun e w' => ∃ v, e = .returned v ∧ OwnI w' w.heap.size v (frontR t.data.toList) ∧ Below w.heap.size w w' := by
 obtain ⟨i0, hi0, hz0, hz1, hz2⟩ := info_parts infoI2
 have hdl : t.data.toList.length = t.size := by simp
 have HB0 : Hid (Below w.heap.size w (w.alloc (.cells #[] 2))) := (Below.refl _ _).alloc (Nat.le_refl _) _
 have HRS := hideZ (row_spec (w.alloc (.cells #[] 2)))
 have HE0 : Hid ((w.alloc (.cells #[] 2)).heap[w.heap.size]? = some (.cells #[] 2 (0, 0))) := heap_alloc_last w _
 have zs : (w.alloc (.cells #[] 2)).heap.size = w.heap.size + 1 := by simp
 rw [zs] at HRS
 clear zs
 by_cases hlong : 400 < t.size
 ·rw [frontR_no (by omega)]
  clear hdl
  have hd4 : decide ((t.size : Int) ≤ 400) = false := decide_eq_false (by omega)
  have hd0 : decide ((0 : Int) < (t.size : Int)) = true := decide_eq_true (by omega)
  go_enter Tryz.func92, Tryz.ntmps92
  go_wp2_with fail
  refine HRS.out.mono ?_
  rintro e w1 ⟨rfl, hr1, hb1⟩
  have HB1 := hideZ (HB0.out.trans (hb1.mono (by omega)))
  have HV : Hid (Own0I w1 w.heap.size (w.heap.size + 2) (.slice (some ⟨w.heap.size, 0, none⟩) 0 0) []) := ⟨(hb1.block _ (by omega)).trans HE0.out, .inl ⟨rfl, rfl⟩⟩
  clear hr1 hb1
  go_wp2_with fail
  go_loopw [5, 3] (fun i u wr => i = .int .i64 0 ∧ u = .slice (some ⟨w.heap.size, 0, none⟩) 0 0 ∧ wr = w1) (fun _ _ _ => 0)
  case atStart => exact ⟨rfl, rfl, rfl⟩
  case round =>
   obtain ⟨rfl, rfl, rfl⟩ := hrel
   go_wp2_with fail
   go_ret
   exact ⟨_, rfl, HV.out.done (by omega), HB1.out⟩
 ·rw [frontR_yes (by omega)]
  have hd4 : decide ((t.size : Int) ≤ 400) = true := decide_eq_true (by omega)
  have HDL := hideZ hdl
  clear hdl
  go_enter Tryz.func92, Tryz.ntmps92
  go_wp2_with fail
  refine HRS.out.mono ?_
  rintro e w1 ⟨rfl, hr1, hb1⟩
  have HB1 := hideZ (HB0.out.trans (hb1.mono (by omega)))
  have HV : Hid (Own0I w1 w.heap.size (w.heap.size + 2) (.slice (some ⟨w.heap.size, 0, none⟩) 0 0) []) := ⟨(hb1.block _ (by omega)).trans HE0.out, .inl ⟨rfl, rfl⟩⟩
  have HR1 := hideZ hr1
  clear hr1 hb1 HRS HE0
  obtain ⟨l, hl⟩ : ∃ l, l = t.data.toList := ⟨_, rfl⟩
  rw [← hl] at HDL
  have HL := hideZ hl
  clear hl
  go_wp2_with fail
  go_loopw [5, 3] (fun i u wr => ∃ k : Nat, i = .int .i64 k ∧ k ≤ t.size ∧ IsB wr (w.heap.size + 1) 5 .u8 256 (fst' (l.take k)).2 ∧ Own0I wr w.heap.size (w.heap.size + 2) u (fst' (l.take k)).1 ∧ Below w.heap.size w wr) (fun i _ _ => t.size - (intOf i).toNat)
  case atStart => exact ⟨0, rfl, Nat.zero_le _, HR1.out, HV.out, HB1.out⟩
  case round =>
   obtain ⟨k, rfl, hk, hrow, hown, hbel⟩ := hrel
   obtain ⟨hfull, hlen⟩ := fst_full l k (by have := HDL.out; omega)
   have R1 := hideZ hrow
   have O1 := hideZ hown
   have GB := hideZ hbel
   have hgs := hrow.lt
   clear hbel
   by_cases hlt : k < t.size
   ·have hd0 : decide ((k : Int) < (t.size : Int)) = true := decide_eq_true (by omega)
    obtain ⟨hkl', hget⟩ := list_get t k hlt
    have hkl : k < l.length := by rw [HDL.out]; exact hlt
    have hge : l[k] = t[k] := by
     have := HL.out
     subst this
     exact hget
    have HM := hideZ (fst_more hkl)
    rw [hge] at HM
    obtain ⟨c, hc⟩ : ∃ c : UInt8, t[k] = c := ⟨_, rfl⟩
    rw [hc] at HM
    obtain ⟨f, hf⟩ : ∃ f, f = (fst' (l.take k)).2 := ⟨_, rfl⟩
    obtain ⟨ps, hps⟩ : ∃ ps, ps = (fst' (l.take k)).1 := ⟨_, rfl⟩
    rw [← hf] at R1 HM hfull
    rw [← hps] at O1 HM hlen
    have hlk := look_some hfull (c := c.toNat) (UInt8.toNat_lt _)
    obtain ⟨q, hq⟩ : ∃ q, q = look f c.toNat := ⟨_, rfl⟩
    rw [← hq] at hlk HM
    have hq256 := hlk.1
    have HLK := hideZ hlk.2
    have HLE := hideZ hlen
    have HFU := hideZ hfull
    clear hget hge hf hps hrow hown hfull hlen hlk hq
    go_wp2_with fail
    go_loopw [6] (fun i wr2 => ∃ p : Nat, i = .int .i64 p ∧ p ≤ q ∧ IsB wr2 (w.heap.size + 1) 5 .u8 256 f ∧ Own0I wr2 w.heap.size (w.heap.size + 2) u3 ps ∧ Below w.heap.size w wr2) (fun i _ => q - (intOf i).toNat)
    case atStart => exact ⟨0, rfl, Nat.zero_le _, R1.out, O1.out, GB.out⟩
    case round =>
     obtain ⟨p, rfl, hp, hrow2, hown2, hbel2⟩ := hrel
     have R2 := hideZ hrow2
     have O2 := hideZ hown2
     have GB2 := hideZ hbel2
     have hgs2 := hrow2.lt
     have c1 := hrow2.cell (j := p) (by omega)
     have hbnd := HFU.out.2 p (by omega)
     obtain ⟨y, hy⟩ : ∃ y, y = f p := ⟨_, rfl⟩
     rw [← hy] at c1 hbnd
     have HY := hideZ hy
     clear hrow2 hown2 hbel2 hy
     by_cases hpq : p = q
     ·have hyc : (y == ((c.toNat : Nat) : Int)) = true := beq_iff_eq.2 (by rw [HY.out, hpq]; exact HLK.out.1)
      have hq1 : q < 256 := hq256
      have HR3 : Hid (∀ nq, IsB (wr.drewN nq) (w.heap.size + 1) 5 .u8 256 f) := fun nq => R2.out
      have HO3 : Hid (∀ nq, Own0I (wr.drewN nq) w.heap.size (w.heap.size + 2) u3 ps) := fun nq => O2.out.keep rfl (fun _ _ _ => rfl)
      have HB3 : Hid (∀ nq, Below w.heap.size w (wr.drewN nq)) := fun nq => below_drewN GB2.out nq
      rw [← hpq] at HM
      clear hpq
      go_wp2_with fail
      go_quiet (fail)
      have R4 := HR3.out nq
      have O4 := HO3.out nq
      have B4 := HB3.out nq
      have z4 : w.heap.size + 1 < (wr.drewN nq).heap.size := hgs2
      generalize wr.drewN nq = W at R4 O4 B4 z4 ⊢
      have HR4 := hideZ R4
      have HO4 := hideZ O4
      have HB4 := hideZ B4
      clear R4 O4 B4 HR3 HO3 HB3 c1
      go_wp2_with (at_builtin; refine wpList_append_own0 _ rfl (.tmp 30) (.tmp 32) 59 rfl (w.heap.size + 2) 2 i0 (.int .i64 0) 1 8 Tryz.underlying59 hi0 hz0 hz1 hz2 rfl (by decide) _ ps.length (ps.map (Value.int .i64)) rfl (Own0.alloc HO4.out.own0 _) ⟨W.heap.size, 0, none⟩ 1 1 [.int .i64 (p : Int)] rfl rfl (one_newI _ _ _) (one_cellI _) (by decide) (by unfold maxLen; have := HLE.out; omega) (by have := HLE.out; omega) (by simp; omega) ?_)
      intro v' w5 hown' hb5
      have ba : Below (w.heap.size + 2) W w5 := ((Below.refl (w.heap.size + 2) W).alloc (by omega) _).trans (hb5 _ (Nat.le_refl _))
      have N5 : Hid (Own0I w5 w.heap.size (w.heap.size + 2) v' (ps ++ [(p : Int)])) := ⟨(ba.block _ (by omega)).trans HO4.out.1, .inr (In.OwnI.snoc hown')⟩
      have R5 := hideZ (HR4.out.below ba (by omega))
      have B5 := hideZ (HB4.out.trans (ba.mono (by omega)))
      have HFS := hideZ (front_spec (w.heap.size + 1) p 256 5 f w5 R5.out (by omega))
      have z5 := ba.size
      clear hown' hb5 ba
      go_wp2_with fail
      refine HFS.out.mono ?_
      rintro e w6 ⟨rfl, hr6, ha6⟩
      have R6 := hideZ hr6
      have N6 := hideZ (N5.out.keep (ha6.2.2.2.2 _ (by omega) (by omega)) (fun j hj1 hj2 => ha6.2.2.2.2 j hj2 (by omega)))
      have B6 := hideZ (Aft.below B5.out ha6 (by omega) (by omega))
      clear hr6 ha6
      go_wp2_with fail
      go_roundw
      case rel => exact ⟨k + 1, by go_num, by omega, by rw [HM.out]; exact R6.out, by rw [HM.out]; exact N6.out, B6.out⟩
      case measure => simp [intOf]; omega
     ·have hyc : (y == ((c.toNat : Nat) : Int)) = false := beq_eq_false_iff_ne.2 (by rw [HY.out]; exact HLK.out.2 p (by omega))
      go_wp2_with fail
      go_quiet (fail)
      all_goals (try go_wp2_with fail)
      go_roundw
      case rel => exact ⟨p + 1, by go_num, by omega, R2.out, O2.out.keep rfl (fun _ _ _ => rfl), below_drewN GB2.out _⟩
      case measure => simp [intOf]; omega
   ·have hd0 : decide ((k : Int) < (t.size : Int)) = false := decide_eq_false (by omega)
    obtain rfl : k = t.size := by omega
    have HT : Hid (l.take t.size = l) := by
     unfold Hid
     rw [← HDL.out, List.take_length]
    rw [HT.out, HL.out] at hown
    have HVV := hideZ (hown.done (by omega))
    clear hrow hown hfull hlen
    go_wp2_with fail
    go_ret
    exact ⟨_, rfl, HVV.out, GB.out⟩
end Go.Proofs.YthbpenanelbbcaaGreatDoor.Fr


/- What is drawn for FrontBack: some numbers. -/
namespace Go.Proofs.YthbpenanelbbcaaGreatDoor.Dr
open Go.RowKit
open Go.Proofs.YthbpenanelbbcaaGreatDoor.In (OwnI one_newI one_cellI)
open Go.Proofs.YthbpenanelbbcaaGreatDoor.In.Tryz (infoI2)
open Go.Proofs.YthbpenanelbbcaaGreatDoor.Fr (frontOf_spec frontR frontR_len)
def vals4 (j : Nat) : Int := if j = 0 then -1 else if j = 1 then 0 else if j = 2 then 255 else 256
end Go.Proofs.YthbpenanelbbcaaGreatDoor.Dr

