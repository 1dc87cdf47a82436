/- Texts put together: FrontB, FrontO, FrontOS. -/
import Derived.Test.YtmkpakhpjgocjaaCz19
import Derived.Test.YtmkpakhpjgocjaaCz20
import Derived.Test.YtmkpakhpjgocjaaCz2
import Derived.WalkMore
import Derived.Scope
import Derived.Test.YtmkpakhpjgocjaaCz8
/- What both FrontBack answer. -/
namespace Go.Proofs.Ytmkpakhpjgocjaa.Fr
open Go.RowKit
open Go.Proofs.Ytmkpakhpjgocjaa.Sh (IsB rowF upd made_row upd_same upd_other strF)
open Go.Proofs.Ytmkpakhpjgocjaa.Ze (hideZ numsR upTo upTo_yes numsR_of numsR_long numsR_yes nums_spec)
open Go.Proofs.Ytmkpakhpjgocjaa.Bi (upTo_impl)
open Go.Proofs.Ytmkpakhpjgocjaa.St (Aft)
open Go.Proofs.Ytmkpakhpjgocjaa.In (Ints)
open Go.Proofs.Ytmkpakhpjgocjaa.Nu (ret_strJ bv own_string app_below)

/-- the bytes so far, zeros behind them -/
def fillB (b : List UInt8) : Nat → Nat := fun j => (b.getD j 0).toNat
theorem fillB_lt (b : List UInt8) (j : Nat) : fillB b j < 256 := UInt8.toNat_lt _
theorem fillB_next (b : List UInt8) (k : Nat) (x : Int) (hk : b.length = k) (h0 : 0 ≤ x) (h1 : x < 256) (j : Nat) :
    upd (fun j => ((fillB b j : Nat) : Int)) k x j = ((fillB (b ++ [UInt8.ofNat x.toNat]) j : Nat) : Int) := by
  unfold upd fillB
  subst hk
  by_cases e : j = b.length
  · subst e
    rw [if_pos rfl, List.getD_eq_getElem?_getD, List.getElem?_append_right (Nat.le_refl _)]
    simp
    omega
  · rw [if_neg e]
    simp only [List.getD_eq_getElem?_getD]
    by_cases h : j < b.length
    · rw [List.getElem?_append_left h]
    · rw [List.getElem?_eq_none (by omega), List.getElem?_eq_none (by simp; omega)]
theorem fillB_all (b : List UInt8) : strF b.length (fillB b) = ⟨b.toArray⟩ := by
  unfold strF
  congr 1
  congr 1
  apply List.ext_getElem
  · simp
  · intro i h1 h2
    have h3 : i < b.length := by simpa using h1
    simp [fillB, List.getD_eq_getElem?_getD, List.getElem?_eq_getElem h3]

set_option maxRecDepth 100000 in
set_option maxHeartbeats 1000000 in
theorem frontBack_impl (l : List Int) (a : Option Addr) (cap B : Nat) (w : World) (hi : Ints w B a l) (hB : B ≤ w.heap.size) (hn : l.length ≤ 1048576) :
    Calls Try.prog 47 #[.slice a l.length cap] w fun e w' => e = .returned (.string ⟨(fbackR l).toArray⟩) ∧ Below w.heap.size w w' := by
  obtain ⟨i0, hi0, hz0, hz1, hz2⟩ := info_parts Nu.Try.infoJ5
  by_cases hlong : 400 < l.length
  · rw [fbackR_no (numsR_long hlong)]
    clear hi
    generalize l.length = n at hlong hn ⊢
    go_enter Try.func47, Try.ntmps47
    go_wp2_with fail
    go_ret
    exact ⟨rfl, Below.refl _ _⟩
  · have HU := hideZ (upTo_impl l 255 a cap B w hi hn)
    cases hu : upTo l 255 with
    | false =>
      rw [fbackR_no ((numsR_of (by omega)).trans hu)]
      rw [hu] at HU
      clear hi hu
      generalize l.length = n at HU hlong hn ⊢
      have hd : decide (400 < (n : Int)) = false := decide_eq_false (by omega)
      go_enter Try.func47, Try.ntmps47
      go_wp2_with fail
      refine HU.out.mono ?_
      rintro e w' ⟨rfl, hw⟩
      subst w'
      go_wp2_with fail
      go_ret
      exact ⟨rfl, Below.refl _ _⟩
    | true =>
      rw [fbackR_yes ((numsR_of (by omega)).trans hu)]
      have HUP := hideZ (upTo_yes hu)
      rw [hu] at HU
      have HS := hideZ (hi.mono hB)
      clear hi hu
      obtain ⟨n, hln⟩ : ∃ n, n = l.length := ⟨_, rfl⟩
      have HLN := hideZ hln
      rw [← hln] at HU hlong ⊢
      clear hln hn
      have hd : decide (400 < (n : Int)) = false := decide_eq_false (by omega)
      go_enter Try.func47, Try.ntmps47
      go_wp2_with fail
      refine HU.out.mono ?_
      rintro e w' ⟨rfl, hw⟩
      subst w'
      go_wp2_with fail
      refine (rising_impl w).mono ?_
      rintro e w1 ⟨rfl, hb1⟩
      have HB1 := hideZ hb1
      have z1 := hb1.size
      clear hb1
      go_wp2_with (first | ((with_reducible refine wpList_alloc_row Try.zeroA89 ?_); intro w2 hb2 hbel2 hs2 ho2; have G2 := hideZ hb2; have HB2 := hideZ (HB1.out.trans (hbel2 _ z1)); clear hb2 hbel2 ho2) | ((with_reducible refine Sh.wpList_store_row' G2.out Try.sizeA89 row0 ?_ ?_ ?_); (· rfl); (· rfl); intro w3 hb3 hbel3 hs3 ho3; have G3 := hideZ hb3; have HB3 := hideZ (HB2.out.trans (hbel3 _ z1)); clear hb3 hbel3 ho3) | (at_make; refine wpList_make_full _ rfl (.tmp 17) (.tmp 17) 22 rfl w3.heap.size 5 i0 (.int .u8 0) 1 Try.underlying22 hi0 hz0 hz1 .i64 .i64 _ _ n rfl rfl (by simp) (by simp) (by rw [hz2]; omega) (by unfold maxLen; omega) (Nat.le_refl _) ?_; intro w4 hown4 hgrow4; have HR4 := hideZ (made_row hown4); have hb4 := (Below.refl w3.heap.size w3).grown hgrow4 (Nat.le_refl _) (by simp); have G4 := hideZ (G3.out.below hb4 (by omega)); have HB4 := hideZ (HB3.out.trans (hb4.mono (by omega))); clear hown4 hgrow4 hb4))
      obtain ⟨g1, hg1⟩ : ∃ g1, g1 = w1.heap.size := ⟨_, rfl⟩
      have e3 : w3.heap.size = w1.heap.size + 1 := by omega
      rw [e3] at HR4
      have hgw : w.heap.size ≤ g1 := by omega
      rw [← hg1] at G4 HR4 ⊢
      obtain ⟨g2, hg2⟩ : ∃ g2, g2 = g1 + 1 := ⟨_, rfl⟩
      have hg12 : g1 < g2 := by omega
      rw [← hg2] at HR4 ⊢
      clear e3
      clear hg1 hg2 hs2 hs3 z1 HU
      go_loopw [21] (fun i wr => ∃ k : Nat, i = .int .i64 k ∧ k ≤ n ∧ IsB wr g1 89 .u8 256 (kst (l.take k)).2 ∧ IsB wr g2 5 .u8 n (fun j => ((fillB (kst (l.take k)).1 j : Nat) : Int)) ∧ Below w.heap.size w wr) (fun i _ => n - (intOf i).toNat)
      case atStart => exact ⟨0, rfl, Nat.zero_le _, G4.out, HR4.out.congr (fun j _ => by simp [fillB, kst]), HB4.out⟩
      case round =>
        obtain ⟨k, rfl, hk, hrow, htxt, hbel⟩ := hrel
        obtain ⟨hfull, hlen⟩ := kst_full l HUP.out k (by have := HLN.out; omega)
        have R1 := hideZ hrow
        have T1 := hideZ htxt
        have GB := hideZ hbel
        clear hbel
        by_cases hlt : k < n
        · have hkl : k < l.length := by rw [← HLN.out]; exact hlt
          obtain ⟨b, off, rfl, hb, hc⟩ := (HS.out.below GB.out).some (by omega)
          have ci := hc k hkl
          have hx255 := HUP.out _ (List.getElem_mem hkl)
          have HM := hideZ (kst_more hkl)
          obtain ⟨x, hx⟩ : ∃ x, x = l[k] := ⟨_, rfl⟩
          rw [← hx] at ci hx255 HM
          obtain ⟨p, rfl⟩ : ∃ p : Nat, x = p := ⟨x.toNat, by omega⟩
          have hp : p < 256 := by omega
          have hfp := hfull.2 p hp
          rw [Int.toNat_natCast] at HM
          obtain ⟨f, hf⟩ : ∃ f, f = (kst (l.take k)).2 := ⟨_, rfl⟩
          obtain ⟨bs, hbs⟩ : ∃ bs, bs = (kst (l.take k)).1 := ⟨_, rfl⟩
          rw [← hf] at R1 HM hrow hfp
          rw [← hbs] at T1 HM hlen htxt
          have c1 := hrow.cell (j := p) hp
          have c2 := htxt.cell (j := k) hlt
          have f2 := htxt.frozen k
          obtain ⟨y, hy⟩ : ∃ y, y = f p := ⟨_, rfl⟩
          have HY := hideZ hy
          rw [← hy] at c1 hfp
          have HT2 := hideZ ((htxt.set k y).congr (fun j _ => fillB_next bs k y hlen hfp.1 hfp.2 j))
          have HR2 := hideZ (hrow.set_other ⟨g2, k, none⟩ (.int .u8 y) (by simp; omega))
          have HBr := hideZ (bring_impl g1 p 89 f _ HR2.out hp)
          rw [← hy] at HM
          clear hc hx hf hbs hrow htxt hfull hlen hy
          go_wp2_with fail
          refine HBr.out.mono ?_
          rintro e w5 ⟨rfl, hb5, ha5⟩
          have G5 := hideZ hb5
          have T5 := hideZ (HT2.out.of_heap (ha5.2.2.2.2 g2 HT2.out.lt (by omega)))
          have B5 := hideZ (Aft.below (GB.out.setCell (p := ⟨g2, k, none⟩) (by simp; omega) (.int .u8 y)) ha5 (by omega) (by have := HT2.out.lt; omega))
          clear hb5 ha5
          go_wp2_with fail
          go_roundw
          case rel => exact ⟨k + 1, by go_num, by omega, by rw [HM.out]; exact G5.out, by rw [HM.out]; exact T5.out, B5.out⟩
          case measure => simp [intOf]; omega
        · obtain rfl : k = n := by omega
          have HT : Hid (l.take k = l) := by
            unfold Hid
            rw [HLN.out, List.take_length]
          rw [HT.out] at htxt hlen
          have hcv := htxt.str (P := Try.prog) (src := 22) (dst := 9) k k (Nat.le_refl _) (fun j _ => fillB_lt _ j) Try.underlying22 Try.underlying5 Try.underlying9
          have HF : Hid (strF k (fillB (kst l).1) = ⟨(kst l).1.toArray⟩) := by
            unfold Hid
            rw [← hlen]
            exact fillB_all _
          rw [HF.out] at hcv
          clear hrow htxt hfull hlen
          go_wp2_with fail
          go_ret
          exact ⟨rfl, GB.out⟩
end Go.Proofs.Ytmkpakhpjgocjaa.Fr

/- What the program's FrontOf answers. -/
namespace Go.Proofs.Ytmkpakhpjgocjaa.Fr
open Go.RowKit
open Go.Proofs.Ytmkpakhpjgocjaa.Sh (IsB rowF upd made_row bt bt_get)
open Go.Proofs.Ytmkpakhpjgocjaa.Ze (hideZ)
open Go.Proofs.Ytmkpakhpjgocjaa.St (Aft)
open Go.Proofs.Ytmkpakhpjgocjaa.In (Ints IsI OwnI made_ints)
open Go.Proofs.Ytmkpakhpjgocjaa.In.Try (infoI2)

/-- the places so far, zeros behind them -/
def padI (xs : List Int) (n : Nat) : List Int := xs ++ List.replicate (n - xs.length) 0
theorem padI_len (xs : List Int) (n : Nat) (h : xs.length ≤ n) : (padI xs n).length = n := by simp [padI]; omega
theorem padI_next (xs : List Int) (n : Nat) (v : Int) (h : xs.length < n) : (padI xs n).set xs.length v = padI (xs ++ [v]) n := by
  unfold padI
  rw [List.set_append_right _ _ (Nat.le_refl _), Nat.sub_self, List.append_assoc]
  congr 1
  obtain ⟨m, hm⟩ : ∃ m, n - xs.length = m + 1 := ⟨n - xs.length - 1, by omega⟩
  rw [hm, List.replicate_succ, List.length_append, List.length_singleton, show n - (xs.length + 1) = m by omega]
  rfl
theorem padI_all (xs : List Int) : padI xs xs.length = xs := by simp [padI]
theorem list_get (t : ByteArray) (k : Nat) (h : k < t.size) : ∃ h' : k < t.data.toList.length, t.data.toList[k] = t[k] := ⟨by simpa using h, by simp [ByteArray.getElem_eq_getElem_data]⟩
theorem row_own {w : World} {g base : Nat} {l : List Int} (h : IsI w g 2 l) (hb : base ≤ g) (hm : l.length ≤ maxLen) : OwnI w base (.slice (some ⟨g, 0, none⟩) l.length l.length) l :=
  ⟨by simp, .inr ⟨g, l.length, _, rfl, hb, h, Nat.le_refl _, hm, by simp [In.irow], by rw [List.take_of_length_le (by simp [In.irow])]; simp [In.irow]⟩⟩

theorem below_drewN {B : Nat} {w w' : World} (h : Below B w w') (n : Nat) : Below B w (w'.drewN n) := ⟨h.os, h.tape, h.output, h.size, h.block⟩
theorem isI_of_heap {w w' : World} {g t : Nat} {l : List Int} (h : IsI w g t l) (e : w'.heap[g]? = w.heap[g]?) : IsI w' g t l := by
  unfold IsI
  rw [e]
  exact h

set_option maxRecDepth 100000 in
set_option maxHeartbeats 1000000 in
theorem frontOf_impl (t : ByteArray) (w : World) (hn : t.size ≤ 1048576) :
    Calls Try.prog 38 #[.string t] w fun e w' => ∃ v, e = .returned v ∧ OwnI w' w.heap.size v (frontR t.data.toList) ∧ Below w.heap.size w w' := by
  obtain ⟨i0, hi0, hz0, hz1, hz2⟩ := info_parts infoI2
  have hdl : t.data.toList.length = t.size := by simp
  by_cases hlong : 400 < t.size
  · rw [frontR_no (by omega)]
    clear hdl
    go_enter Try.func38, Try.ntmps38
    go_wp2_with fail
    go_step3
    go_wp2_with fail
    try rw [Exit.noGoto_ret]
    go_ret
    exact ⟨_, rfl, OwnI.nil _ _, Below.refl _ _⟩
  · rw [frontR_yes (by omega)]
    have HDL := hideZ hdl
    clear hdl
    have hlong' : ¬ (400 : Int) < (t.size : Int) := by omega
    go_enter Try.func38, Try.ntmps38
    go_wp2_with fail
    go_step3
    go_wp2_with fail
    refine (rising_impl w).mono ?_
    rintro e w1 ⟨rfl, hb1⟩
    have HB1 := hideZ hb1
    have z1 := hb1.size
    clear hb1
    obtain ⟨n, hln⟩ : ∃ n, n = t.size := ⟨_, rfl⟩
    go_wp2_with (first | ((with_reducible refine wpList_alloc_row Try.zeroA89 ?_); intro w2 hb2 hbel2 hs2 ho2; have G2 := hideZ hb2; have HB2 := hideZ (HB1.out.trans (hbel2 _ z1)); clear hb2 hbel2 ho2) | ((with_reducible refine Sh.wpList_store_row' G2.out Try.sizeA89 row0 ?_ ?_ ?_); (· rfl); (· rfl); intro w3 hb3 hbel3 hs3 ho3; have G3 := hideZ hb3; have HB3 := hideZ (HB2.out.trans (hbel3 _ z1)); clear hb3 hbel3 ho3) | (at_make; refine wpList_make_full _ rfl (.tmp 12) (.tmp 12) 23 rfl w3.heap.size 2 i0 (.int .i64 0) 1 Try.underlying23 hi0 hz0 hz1 .i64 .i64 _ _ t.size rfl rfl (by simp) (by simp) (by rw [hz2]; omega) (by unfold maxLen; omega) (Nat.le_refl _) ?_; intro w4 hown4 hgrow4; have HR4 := hideZ (made_ints hown4); have hb4 := (Below.refl w3.heap.size w3).grown hgrow4 (Nat.le_refl _) (by simp); have G4 := hideZ (G3.out.below hb4 (by omega)); have HB4 := hideZ (HB3.out.trans (hb4.mono (by omega))); clear hown4 hgrow4 hb4))
    go_step3
    go_wp2_with fail
    clear hln n
    obtain ⟨g1, hg1⟩ : ∃ g1, g1 = w1.heap.size := ⟨_, rfl⟩
    have e3 : w3.heap.size = w1.heap.size + 1 := by omega
    rw [e3] at HR4
    have hgw : w.heap.size ≤ g1 := by omega
    rw [← hg1] at G4 HR4 ⊢
    obtain ⟨g2, hg2⟩ : ∃ g2, g2 = g1 + 1 := ⟨_, rfl⟩
    have hg12 : g1 < g2 := by omega
    rw [← hg2] at HR4 ⊢
    clear e3 hg1 hg2 hs2 hs3 z1
    obtain ⟨l, hl⟩ : ∃ l, l = t.data.toList := ⟨_, rfl⟩
    rw [← hl] at HDL
    have HL := hideZ hl
    clear hl
    go_loopw [16] (fun i wr => ∃ k : Nat, i = .int .i64 k ∧ k ≤ t.size ∧ IsB wr g1 89 .u8 256 (fst' (l.take k)).2 ∧ IsI wr g2 2 (padI (fst' (l.take k)).1 t.size) ∧ Below w.heap.size w wr) (fun i _ => t.size - (intOf i).toNat)
    case atStart => exact ⟨0, rfl, Nat.zero_le _, G4.out, by simpa [padI, fst'] using HR4.out, HB4.out⟩
    case round =>
      obtain ⟨k, rfl, hk, hrow, hpl, hbel⟩ := hrel
      obtain ⟨hfull, hlen⟩ := fst_full l k (by have := HDL.out; omega)
      have R1 := hideZ hrow
      have T1 := hideZ hpl
      have GB := hideZ hbel
      clear hbel
      by_cases hlt : k < t.size
      · obtain ⟨hkl', hget⟩ := list_get t k hlt
        have hkl : k < l.length := by rw [HDL.out]; exact hlt
        have hge : l[k] = t[k] := by
          have := HL.out
          subst this
          exact hget
        have HM := hideZ (fst_more hkl)
        rw [hge] at HM
        obtain ⟨c, hc⟩ : ∃ c : UInt8, t[k] = c := ⟨_, rfl⟩
        rw [hc] at HM
        obtain ⟨f, hf⟩ : ∃ f, f = (fst' (l.take k)).2 := ⟨_, rfl⟩
        obtain ⟨ps, hps⟩ : ∃ ps, ps = (fst' (l.take k)).1 := ⟨_, rfl⟩
        rw [← hf] at R1 HM hfull
        rw [← hps] at T1 HM hlen
        have hlk := look_some hfull (c := c.toNat) (UInt8.toNat_lt _)
        obtain ⟨q, hq⟩ : ∃ q, q = look f c.toNat := ⟨_, rfl⟩
        rw [← hq] at hlk HM
        have hq256 := hlk.1
        have HLK := hideZ hlk.2
        have HLE := hideZ hlen
        have HFU := hideZ hfull
        clear hget hge hf hps hrow hpl hfull hlen hlk hq
        go_wp2_with fail
        go_loopw [19] (fun i wr2 => ∃ p : Nat, i = .int .i64 p ∧ p ≤ q ∧ IsB wr2 g1 89 .u8 256 f ∧ IsI wr2 g2 2 (padI ps t.size) ∧ Below w.heap.size w wr2) (fun i _ => q - (intOf i).toNat)
        case atStart => exact ⟨0, rfl, Nat.zero_le _, R1.out, T1.out, GB.out⟩
        case round =>
          obtain ⟨p, rfl, hp, hrow2, hpl2, hbel2⟩ := hrel
          have R2 := hideZ hrow2
          have T2 := hideZ hpl2
          have GB2 := hideZ hbel2
          have c1 := hrow2.cell (j := p) (by omega)
          have hbnd := HFU.out.2 p (by omega)
          obtain ⟨y, hy⟩ : ∃ y, y = f p := ⟨_, rfl⟩
          rw [← hy] at c1 hbnd
          have HY := hideZ hy
          clear hrow2 hpl2 hbel2 hy
          by_cases hpq : p = q
          · have hyc : (y == ((c.toNat : Nat) : Int)) = true := beq_iff_eq.2 (by rw [HY.out, hpq]; exact HLK.out.1)
            have hq1 : q < 256 := hq256
            have c2 := T2.out.cell (j := k) (by rw [padI_len _ _ (by have := HLE.out; omega)]; exact hlt)
            have f2 := T2.out.frozen k
            have HT3 : Hid (∀ nq, IsI ((wr.drewN nq).setCell ⟨g2, k, none⟩ (.int .i64 p)) g2 2 (padI (ps ++ [(p : Int)]) t.size)) := fun nq => by
              have h1 : IsI (wr.drewN nq) g2 2 (padI ps t.size) := T2.out
              have h2 := h1.set k (p : Int)
              have h3 := padI_next ps t.size (p : Int) (by have := HLE.out; omega)
              rw [HLE.out] at h3
              rw [h3] at h2
              exact h2
            have HR3 : Hid (∀ nq, IsB ((wr.drewN nq).setCell ⟨g2, k, none⟩ (.int .i64 p)) g1 89 .u8 256 f) := fun nq => by
              have h1 : IsB (wr.drewN nq) g1 89 .u8 256 f := R2.out
              exact h1.set_other _ _ (by simp; omega)
            have HBr := hideZ (fun nq => bring_impl g1 p 89 f _ (HR3.out nq) (by omega))
            have HB3' : Hid (∀ nq, Below w.heap.size w ((wr.drewN nq).setCell ⟨g2, k, none⟩ (.int .i64 p))) := fun nq => (below_drewN GB2.out nq).setCell (p := ⟨g2, k, none⟩) (by simp; omega) _
            rw [← hpq] at HM
            clear hpq
            go_wp2_with fail
            go_quiet (fail)
            all_goals (try go_wp2_with fail)
            refine (HBr.out _).mono ?_
            rintro e w5 ⟨rfl, hb5, ha5⟩
            have G5 := hideZ hb5
            have T5 := hideZ (isI_of_heap (HT3.out _) (ha5.2.2.2.2 g2 (HT3.out _).lt (by omega)))
            have B5 := hideZ (Aft.below (HB3'.out _) ha5 (by omega) (by have := (HT3.out nq).lt; omega))
            clear hb5 ha5
            go_wp2_with fail
            go_roundw
            case rel => exact ⟨k + 1, by go_num, by omega, by rw [HM.out]; exact G5.out, by rw [HM.out]; exact T5.out, B5.out⟩
            case measure => simp [intOf]; omega
          · have hyc : (y == ((c.toNat : Nat) : Int)) = false := beq_eq_false_iff_ne.2 (by rw [HY.out]; exact HLK.out.2 p (by omega))
            go_wp2_with fail
            go_quiet (fail)
            all_goals (try go_wp2_with fail)
            go_roundw
            case rel => exact ⟨p + 1, by go_num, by omega, R2.out, T2.out, below_drewN GB2.out _⟩
            case measure => simp [intOf]; omega
      · obtain rfl : k = t.size := by omega
        have HT : Hid (l.take t.size = l) := by
          unfold Hid
          rw [← HDL.out, List.take_length]
        rw [HT.out] at hpl hlen
        have hpa : padI (fst' l).1 t.size = (fst' l).1 := by
          rw [← hlen]
          exact padI_all _
        rw [hpa] at hpl
        have HV := hideZ (row_own (base := w.heap.size) hpl (by omega) (by unfold maxLen; omega))
        rw [hlen] at HV
        have HLL := HL.out
        rw [HLL] at HV
        clear hrow hpl hfull hlen hpa HLL
        go_wp2_with fail
        try rw [Exit.noGoto_ret]
        go_ret
        exact ⟨_, rfl, HV.out, GB.out⟩
end Go.Proofs.Ytmkpakhpjgocjaa.Fr

/- What the specification's FrontOf answers. -/
namespace Go.Proofs.Ytmkpakhpjgocjaa.Fr
open Go.RowKit
open Go.Proofs.Ytmkpakhpjgocjaa.Sh (IsB rowF upd made_row bt bt_get)
open Go.Proofs.Ytmkpakhpjgocjaa.Ze (hideZ)
open Go.Proofs.Ytmkpakhpjgocjaa.St (Aft)
open Go.Proofs.Ytmkpakhpjgocjaa.In (Ints IsI OwnI one_newI one_cellI)
open Go.Proofs.Ytmkpakhpjgocjaa.In.Try (infoI2)
open Go.Proofs.Ytmkpakhpjgocjaa.Ap (Own0 wpList_append_own0)

/-- an empty list that was written out, or a row above a mark -/
def Own0I (w : World) (lit base : Nat) (v : Value) (l : List Int) : Prop :=
  w.heap[lit]? = some (.cells #[] 2 (0, 0)) ∧ ((v = .slice (some ⟨lit, 0, none⟩) 0 0 ∧ l = []) ∨ OwnI w base v l)
theorem Own0I.own0 {w : World} {lit base : Nat} {v : Value} {l : List Int} (h : Own0I w lit base v l) : Own0 w base 2 1 v l.length (l.map (Value.int .i64)) := by
  rcases h.2 with ⟨rfl, rfl⟩ | h
  · exact .inl ⟨_, rfl, rfl, rfl⟩
  · exact .inr h
theorem Own0I.done {w : World} {lit base : Nat} {v : Value} {l : List Int} (h : Own0I w lit base v l) (hb : lit ≤ base) : OwnI w lit v l := by
  obtain ⟨he, ⟨rfl, rfl⟩ | h⟩ := h
  · exact ⟨rfl, .inr ⟨lit, 0, #[], rfl, Nat.le_refl _, he, Nat.le_refl _, by decide, rfl, rfl⟩⟩
  · exact h.mono hb
theorem Own0I.keep {w w' : World} {lit base : Nat} {v : Value} {l : List Int} (h : Own0I w lit base v l) (hl : w'.heap[lit]? = w.heap[lit]?) (b : ∀ k, base ≤ k → k < w.heap.size → w'.heap[k]? = w.heap[k]?) : Own0I w' lit base v l := by
  refine ⟨hl.trans h.1, ?_⟩
  rcases h.2 with h | ⟨hl, h⟩
  · exact .inl h
  · refine .inr ⟨hl, ?_⟩
    rcases h with h | ⟨g, cap, cur, hv, hg, hb, rest⟩
    · exact .inl h
    · exact .inr ⟨g, cap, cur, hv, hg, by rw [b g hg (Array.getElem?_eq_some_iff.1 hb).1]; exact hb, rest⟩

set_option maxRecDepth 100000 in
set_option maxHeartbeats 1000000 in
theorem frontOf_spec (t : ByteArray) (w : World) (hn : t.size ≤ 1048576) :
    Calls Try.prog 46 #[.string t] w fun e w' => ∃ v, e = .returned v ∧ OwnI w' w.heap.size v (frontR t.data.toList) ∧ Below w.heap.size w w' := by
  obtain ⟨i0, hi0, hz0, hz1, hz2⟩ := info_parts infoI2
  have hdl : t.data.toList.length = t.size := by simp
  have HB0 : Hid (Below w.heap.size w (w.alloc (.cells #[] 2))) := (Below.refl _ _).alloc (Nat.le_refl _) _
  have HRS := hideZ (row_spec (w.alloc (.cells #[] 2)))
  have HE0 : Hid ((w.alloc (.cells #[] 2)).heap[w.heap.size]? = some (.cells #[] 2 (0, 0))) := heap_alloc_last w _
  have zs : (w.alloc (.cells #[] 2)).heap.size = w.heap.size + 1 := by simp
  rw [zs] at HRS
  clear zs
  by_cases hlong : 400 < t.size
  · rw [frontR_no (by omega)]
    clear hdl
    have hd4 : decide ((t.size : Int) ≤ 400) = false := decide_eq_false (by omega)
    have hd0 : decide ((0 : Int) < (t.size : Int)) = true := decide_eq_true (by omega)
    go_enter Try.func46, Try.ntmps46
    go_wp2_with fail
    refine HRS.out.mono ?_
    rintro e w1 ⟨rfl, hr1, hb1⟩
    have HB1 := hideZ (HB0.out.trans (hb1.mono (by omega)))
    have HV : Hid (Own0I w1 w.heap.size (w.heap.size + 2) (.slice (some ⟨w.heap.size, 0, none⟩) 0 0) []) := ⟨(hb1.block _ (by omega)).trans HE0.out, .inl ⟨rfl, rfl⟩⟩
    clear hr1 hb1
    go_wp2_with fail
    go_loopw [5, 3] (fun i u wr => i = .int .i64 0 ∧ u = .slice (some ⟨w.heap.size, 0, none⟩) 0 0 ∧ wr = w1) (fun _ _ _ => 0)
    case atStart => exact ⟨rfl, rfl, rfl⟩
    case round =>
      obtain ⟨rfl, rfl, rfl⟩ := hrel
      go_wp2_with fail
      go_ret
      exact ⟨_, rfl, HV.out.done (by omega), HB1.out⟩
  · rw [frontR_yes (by omega)]
    have hd4 : decide ((t.size : Int) ≤ 400) = true := decide_eq_true (by omega)
    have HDL := hideZ hdl
    clear hdl
    go_enter Try.func46, Try.ntmps46
    go_wp2_with fail
    refine HRS.out.mono ?_
    rintro e w1 ⟨rfl, hr1, hb1⟩
    have HB1 := hideZ (HB0.out.trans (hb1.mono (by omega)))
    have HV : Hid (Own0I w1 w.heap.size (w.heap.size + 2) (.slice (some ⟨w.heap.size, 0, none⟩) 0 0) []) := ⟨(hb1.block _ (by omega)).trans HE0.out, .inl ⟨rfl, rfl⟩⟩
    have HR1 := hideZ hr1
    clear hr1 hb1 HRS HE0
    obtain ⟨l, hl⟩ : ∃ l, l = t.data.toList := ⟨_, rfl⟩
    rw [← hl] at HDL
    have HL := hideZ hl
    clear hl
    go_wp2_with fail
    go_loopw [5, 3] (fun i u wr => ∃ k : Nat, i = .int .i64 k ∧ k ≤ t.size ∧ IsB wr (w.heap.size + 1) 5 .u8 256 (fst' (l.take k)).2 ∧ Own0I wr w.heap.size (w.heap.size + 2) u (fst' (l.take k)).1 ∧ Below w.heap.size w wr) (fun i _ _ => t.size - (intOf i).toNat)
    case atStart => exact ⟨0, rfl, Nat.zero_le _, HR1.out, HV.out, HB1.out⟩
    case round =>
      obtain ⟨k, rfl, hk, hrow, hown, hbel⟩ := hrel
      obtain ⟨hfull, hlen⟩ := fst_full l k (by have := HDL.out; omega)
      have R1 := hideZ hrow
      have O1 := hideZ hown
      have GB := hideZ hbel
      have hgs := hrow.lt
      clear hbel
      by_cases hlt : k < t.size
      · have hd0 : decide ((k : Int) < (t.size : Int)) = true := decide_eq_true (by omega)
        obtain ⟨hkl', hget⟩ := list_get t k hlt
        have hkl : k < l.length := by rw [HDL.out]; exact hlt
        have hge : l[k] = t[k] := by
          have := HL.out
          subst this
          exact hget
        have HM := hideZ (fst_more hkl)
        rw [hge] at HM
        obtain ⟨c, hc⟩ : ∃ c : UInt8, t[k] = c := ⟨_, rfl⟩
        rw [hc] at HM
        obtain ⟨f, hf⟩ : ∃ f, f = (fst' (l.take k)).2 := ⟨_, rfl⟩
        obtain ⟨ps, hps⟩ : ∃ ps, ps = (fst' (l.take k)).1 := ⟨_, rfl⟩
        rw [← hf] at R1 HM hfull
        rw [← hps] at O1 HM hlen
        have hlk := look_some hfull (c := c.toNat) (UInt8.toNat_lt _)
        obtain ⟨q, hq⟩ : ∃ q, q = look f c.toNat := ⟨_, rfl⟩
        rw [← hq] at hlk HM
        have hq256 := hlk.1
        have HLK := hideZ hlk.2
        have HLE := hideZ hlen
        have HFU := hideZ hfull
        clear hget hge hf hps hrow hown hfull hlen hlk hq
        go_wp2_with fail
        go_loopw [6] (fun i wr2 => ∃ p : Nat, i = .int .i64 p ∧ p ≤ q ∧ IsB wr2 (w.heap.size + 1) 5 .u8 256 f ∧ Own0I wr2 w.heap.size (w.heap.size + 2) u3 ps ∧ Below w.heap.size w wr2) (fun i _ => q - (intOf i).toNat)
        case atStart => exact ⟨0, rfl, Nat.zero_le _, R1.out, O1.out, GB.out⟩
        case round =>
          obtain ⟨p, rfl, hp, hrow2, hown2, hbel2⟩ := hrel
          have R2 := hideZ hrow2
          have O2 := hideZ hown2
          have GB2 := hideZ hbel2
          have hgs2 := hrow2.lt
          have c1 := hrow2.cell (j := p) (by omega)
          have hbnd := HFU.out.2 p (by omega)
          obtain ⟨y, hy⟩ : ∃ y, y = f p := ⟨_, rfl⟩
          rw [← hy] at c1 hbnd
          have HY := hideZ hy
          clear hrow2 hown2 hbel2 hy
          by_cases hpq : p = q
          · have hyc : (y == ((c.toNat : Nat) : Int)) = true := beq_iff_eq.2 (by rw [HY.out, hpq]; exact HLK.out.1)
            have hq1 : q < 256 := hq256
            have HR3 : Hid (∀ nq, IsB (wr.drewN nq) (w.heap.size + 1) 5 .u8 256 f) := fun nq => R2.out
            have HO3 : Hid (∀ nq, Own0I (wr.drewN nq) w.heap.size (w.heap.size + 2) u3 ps) := fun nq => O2.out.keep rfl (fun _ _ _ => rfl)
            have HB3 : Hid (∀ nq, Below w.heap.size w (wr.drewN nq)) := fun nq => below_drewN GB2.out nq
            rw [← hpq] at HM
            clear hpq
            go_wp2_with fail
            go_quiet (fail)
            have R4 := HR3.out nq
            have O4 := HO3.out nq
            have B4 := HB3.out nq
            have z4 : w.heap.size + 1 < (wr.drewN nq).heap.size := hgs2
            generalize wr.drewN nq = W at R4 O4 B4 z4 ⊢
            have HR4 := hideZ R4
            have HO4 := hideZ O4
            have HB4 := hideZ B4
            clear R4 O4 B4 HR3 HO3 HB3 c1
            go_wp2_with (at_builtin; refine wpList_append_own0 _ rfl (.tmp 30) (.tmp 32) 23 rfl (w.heap.size + 2) 2 i0 (.int .i64 0) 1 8 Try.underlying23 hi0 hz0 hz1 hz2 rfl (by decide) _ ps.length (ps.map (Value.int .i64)) rfl (Own0.alloc HO4.out.own0 _) ⟨W.heap.size, 0, none⟩ 1 1 [.int .i64 (p : Int)] rfl rfl (one_newI _ _ _) (one_cellI _) (by decide) (by unfold maxLen; have := HLE.out; omega) (by have := HLE.out; omega) (by simp; omega) ?_)
            intro v' w5 hown' hb5
            have ba : Below (w.heap.size + 2) W w5 := ((Below.refl (w.heap.size + 2) W).alloc (by omega) _).trans (hb5 _ (Nat.le_refl _))
            have N5 : Hid (Own0I w5 w.heap.size (w.heap.size + 2) v' (ps ++ [(p : Int)])) := ⟨(ba.block _ (by omega)).trans HO4.out.1, .inr (In.OwnI.snoc hown')⟩
            have R5 := hideZ (HR4.out.below ba (by omega))
            have B5 := hideZ (HB4.out.trans (ba.mono (by omega)))
            have HFS := hideZ (front_spec (w.heap.size + 1) p 256 5 f w5 R5.out (by omega))
            have z5 := ba.size
            clear hown' hb5 ba
            go_wp2_with fail
            refine HFS.out.mono ?_
            rintro e w6 ⟨rfl, hr6, ha6⟩
            have R6 := hideZ hr6
            have N6 := hideZ (N5.out.keep (ha6.2.2.2.2 _ (by omega) (by omega)) (fun j hj1 hj2 => ha6.2.2.2.2 j hj2 (by omega)))
            have B6 := hideZ (Aft.below B5.out ha6 (by omega) (by omega))
            clear hr6 ha6
            go_wp2_with fail
            go_roundw
            case rel => exact ⟨k + 1, by go_num, by omega, by rw [HM.out]; exact R6.out, by rw [HM.out]; exact N6.out, B6.out⟩
            case measure => simp [intOf]; omega
          · have hyc : (y == ((c.toNat : Nat) : Int)) = false := beq_eq_false_iff_ne.2 (by rw [HY.out]; exact HLK.out.2 p (by omega))
            go_wp2_with fail
            go_quiet (fail)
            all_goals (try go_wp2_with fail)
            go_roundw
            case rel => exact ⟨p + 1, by go_num, by omega, R2.out, O2.out.keep rfl (fun _ _ _ => rfl), below_drewN GB2.out _⟩
            case measure => simp [intOf]; omega
      · have hd0 : decide ((k : Int) < (t.size : Int)) = false := decide_eq_false (by omega)
        obtain rfl : k = t.size := by omega
        have HT : Hid (l.take t.size = l) := by
          unfold Hid
          rw [← HDL.out, List.take_length]
        rw [HT.out, HL.out] at hown
        have HVV := hideZ (hown.done (by omega))
        clear hrow hown hfull hlen
        go_wp2_with fail
        go_ret
        exact ⟨_, rfl, HVV.out, GB.out⟩
end Go.Proofs.Ytmkpakhpjgocjaa.Fr
