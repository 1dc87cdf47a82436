/- Texts put together: DrawUnb, FrontO. -/
import Derived.Test.YtmkpakhpjgocjaaFs22
import Derived.Test.YtmkpakhpjgocjaaFs31
import Derived.Test.YtmkpakhpjgocjaaFs7
import Derived.Test.YtmkpakhpjgocjaaFs29
import Derived.Test.YtmkpakhpjgocjaaFs14
import Derived.WalkMore
import Derived.Scope
/- What is drawn for Unbwt: some text and some number. -/
namespace Go.Proofs.Ytmkpakhpjgocjaa.Dr
open Go.RowKit
open Go.Proofs.Ytmkpakhpjgocjaa.So (bwt_spec sOut bwtT bwtA bwtC bwtT_size)

theorem bwtT_le (t : ByteArray) : (bwtT t).size ≤ 50 := by
  by_cases h : t.size ≤ 48
  · rw [bwtT_size h]; omega
  · rw [(So.bwt_no (by omega)).1]
    decide
theorem n_keep (B g : Nat) (a : Option Addr) (len cap : Nat) (q : ByteArray) (m : Int) (w0 w : World) (hl : len ≤ 1048576) (hs : Src w B a len cap) (hg : g ≠ B) (hb : Below B w0 w)
    (c0 : w.cell? ⟨g, 0, none⟩ = some (.string q)) (c1 : w.cell? ⟨g, 1, none⟩ = some (.int .i64 m)) :
    Calls Try.prog 71 #[.pointer (some ⟨B, 0, none⟩), .int .i64 3] w fun e w' => ∃ r : Int, e = .returned (.int .i64 r) ∧ w'.cell? ⟨g, 0, none⟩ = some (.string q) ∧ w'.cell? ⟨g, 1, none⟩ = some (.int .i64 m) ∧ Below B w0 w' := by
  refine (n_any B a len cap 3 w hl (by omega) hs).mono ?_
  rintro e w' ⟨r, rfl, _, _, _, ho⟩
  exact ⟨r, rfl, (World.cell?_of_block (w := w) (a := ⟨g, 0, none⟩) (ho.2.2.2.2 g hg)).trans c0, (World.cell?_of_block (w := w) (a := ⟨g, 1, none⟩) (ho.2.2.2.2 g hg)).trans c1, ho.below hb (Nat.le_refl _)⟩

set_option maxRecDepth 100000 in
set_option maxHeartbeats 2000000 in
theorem drawUnbwt_any (a : Option Addr) (len cap : Nat) (w : World) (hl : len ≤ 1048576) (hr : Row w w.heap.size a len) :
    Calls Try.prog 35 #[.slice a len cap] w fun e w' => ∃ (s : ByteArray) (x : Int), s.size ≤ 50 ∧ e = .returned (.tuple #[.string s, .int .i64 x]) ∧ Below w.heap.size w w' := by
  have HR := hideD hr
  clear hr
  go_enter Try.func35, Try.ntmps35
  go_wp2_with fail
  refine (source_any a len cap _ hl HR.out).mono ?_
  rintro e w1 ⟨rfl, hs1, hb1, hz⟩
  have HS1 := hideD hs1
  have HB1 := hideD hb1
  have z1 := hb1.size
  clear hs1 hb1 hz
  go_wp2_with fail
  refine (some5_any w.heap.size a len cap _ hl HS1.out).mono ?_
  rintro e w2 ⟨s, hs, rfl, hs2, ha2⟩
  have HS2 := hideD hs2
  have HB2 := hideD (ha2.below HB1.out (Nat.le_refl _) z1)
  have z2 := HB2.out.size
  have HW := hideD (bwt_spec s w2 (by omega))
  unfold sOut at HW
  have HQ := hideD (bwtT_le s)
  clear hs2 ha2
  generalize bwtT s = q at HW HQ
  generalize bwtA s = m at HW
  generalize bwtC s = c at HW
  go_wp2_with fail
  refine HW.out.mono ?_
  rintro e w3 ⟨rfl, hb3⟩
  have HS3 := hideD (HS2.out.below hb3)
  have HB3 := hideD (HB2.out.trans (hb3.mono z2))
  have hB3 := HS3.out.lt
  clear hb3
  obtain ⟨w4, hw4⟩ : ∃ w4, w4 = w3.alloc (.cells #[.string q, .int .i64 m, .int .i64 c] 49) := ⟨_, rfl⟩
  have HS4 : Hid (Src w4 w.heap.size a len cap) := by unfold Hid; rw [hw4]; exact HS3.out.below ((Below.refl _ _).alloc (Nat.le_refl _) _)
  have HB4 : Hid (Below w.heap.size w w4) := by unfold Hid; rw [hw4]; exact HB3.out.alloc (by omega) _
  have HH4 : Hid (w4.heap[w3.heap.size]? = some (.cells #[.string q, .int .i64 m, .int .i64 c] 49 (0, 0))) := by unfold Hid; rw [hw4]; exact heap_alloc_last w3 _
  go_wp2_with fail
  rw [← hw4]
  refine (one_any w.heap.size a len cap 3 _ hl (by omega) HS4.out).mono ?_
  rintro e w5 ⟨r5, rfl, hs5, ho5⟩
  have HS5 := hideD hs5
  have HB5 := hideD (ho5.below HB4.out (Nat.le_refl _))
  have HH5 : Hid (w5.heap[w3.heap.size]? = some (.cells #[.string q, .int .i64 m, .int .i64 c] 49 (0, 0))) := (ho5.2.2.2.2 _ (by omega)).trans HH4.out
  have z5 := HB5.out.size
  clear hs5 ho5 hw4
  cases r5 with
  | true =>
    go_wp2_with fail
    refine (some5_any w.heap.size a len cap _ hl HS5.out).mono ?_
    rintro e w6 ⟨s6, hs6, rfl, hsr6, ha6⟩
    have HS6 := hideD hsr6
    have HB6 := hideD (ha6.below HB5.out (Nat.le_refl _) z5)
    clear hsr6 ha6
    go_wp2_with fail
    refine (n_any w.heap.size a len cap 9 _ hl (by omega) HS6.out).mono ?_
    rintro e w7 ⟨r7, rfl, p0, p1, hs7, ho7⟩
    have HB7 := hideD (ho7.below HB6.out (Nat.le_refl _))
    clear hs7 ho7
    go_wp2_with fail
    exact bodyPost_ret (by simp [results, Try.results35, go_sem]; rfl) rfl ⟨s6, _, hs6, rfl, HB7.out⟩
  | false =>
    go_wp2_with fail
    refine (one_any w.heap.size a len cap 6 _ hl (by omega) HS5.out).mono ?_
    rintro e w6 ⟨r6, rfl, hs6, ho6⟩
    have HS6 := hideD hs6
    have HB6 := hideD (ho6.below HB5.out (Nat.le_refl _))
    have hh6 := (ho6.2.2.2.2 w3.heap.size (by omega)).trans HH5.out
    have c0 : w6.cell? ⟨w3.heap.size, 0, none⟩ = some (.string q) := by rw [cell_of_row w6 _ 0 _ _ _ hh6]; rfl
    have c1 : w6.cell? ⟨w3.heap.size, 1, none⟩ = some (.int .i64 m) := by rw [cell_of_row w6 _ 1 _ _ _ hh6]; rfl
    have d0 : w6.drew.cell? ⟨w3.heap.size, 0, none⟩ = some (.string q) := c0
    have d1 : w6.drew.cell? ⟨w3.heap.size, 1, none⟩ = some (.int .i64 m) := c1
    clear hs6 ho6 hh6
    cases r6 with
    | true =>
      have HK := hideD (n_keep w.heap.size w3.heap.size a len cap q m w w6.drew hl HS6.out (by omega) HB6.out.drew d0 d1)
      go_wp2_with fail
      go_region_with (go_at_call 71; refine HK.out.mono ?_; rintro e wN ⟨r, rfl, e0, e1, hbN⟩)
      all_goals (try go_wp2_with fail)
      all_goals exact bodyPost_ret (by simp [results, Try.results35, go_sem]; rfl) rfl ⟨q, _, HQ.out, rfl, hbN⟩
    | false =>
      go_wp2_with fail
      go_region
      all_goals (try go_wp2_with fail)
      all_goals exact bodyPost_ret (by simp [results, Try.results35, go_sem]; rfl) rfl ⟨q, _, HQ.out, rfl, HB6.out.drew⟩
end Go.Proofs.Ytmkpakhpjgocjaa.Dr

/- What the program's FrontOf answers. -/
namespace Go.Proofs.Ytmkpakhpjgocjaa.Fr
open Go.RowKit
open Go.Proofs.Ytmkpakhpjgocjaa.Sh (IsB rowF upd made_row bt bt_get)
open Go.Proofs.Ytmkpakhpjgocjaa.Ze (hideZ)
open Go.Proofs.Ytmkpakhpjgocjaa.St (Aft)
open Go.Proofs.Ytmkpakhpjgocjaa.In (Ints IsI OwnI made_ints)
open Go.Proofs.Ytmkpakhpjgocjaa.In.Try (infoI2)

/-- the places so far, zeros behind them -/
def padI (xs : List Int) (n : Nat) : List Int := xs ++ List.replicate (n - xs.length) 0
theorem padI_len (xs : List Int) (n : Nat) (h : xs.length ≤ n) : (padI xs n).length = n := by simp [padI]; omega
theorem padI_next (xs : List Int) (n : Nat) (v : Int) (h : xs.length < n) : (padI xs n).set xs.length v = padI (xs ++ [v]) n := by
  unfold padI
  rw [List.set_append_right _ _ (Nat.le_refl _), Nat.sub_self, List.append_assoc]
  congr 1
  obtain ⟨m, hm⟩ : ∃ m, n - xs.length = m + 1 := ⟨n - xs.length - 1, by omega⟩
  rw [hm, List.replicate_succ, List.length_append, List.length_singleton, show n - (xs.length + 1) = m by omega]
  rfl
theorem padI_all (xs : List Int) : padI xs xs.length = xs := by simp [padI]
theorem list_get (t : ByteArray) (k : Nat) (h : k < t.size) : ∃ h' : k < t.data.toList.length, t.data.toList[k] = t[k] := ⟨by simpa using h, by simp [ByteArray.getElem_eq_getElem_data]⟩
theorem row_own {w : World} {g base : Nat} {l : List Int} (h : IsI w g 2 l) (hb : base ≤ g) (hm : l.length ≤ maxLen) : OwnI w base (.slice (some ⟨g, 0, none⟩) l.length l.length) l :=
  ⟨by simp, .inr ⟨g, l.length, _, rfl, hb, h, Nat.le_refl _, hm, by simp [In.irow], by rw [List.take_of_length_le (by simp [In.irow])]; simp [In.irow]⟩⟩

theorem below_drewN {B : Nat} {w w' : World} (h : Below B w w') (n : Nat) : Below B w (w'.drewN n) := ⟨h.os, h.tape, h.output, h.size, h.block⟩
theorem isI_of_heap {w w' : World} {g t : Nat} {l : List Int} (h : IsI w g t l) (e : w'.heap[g]? = w.heap[g]?) : IsI w' g t l := by
  unfold IsI
  rw [e]
  exact h

set_option maxRecDepth 100000 in
set_option maxHeartbeats 1000000 in
theorem frontOf_impl (t : ByteArray) (w : World) (hn : t.size ≤ 1048576) :
    Calls Try.prog 38 #[.string t] w fun e w' => ∃ v, e = .returned v ∧ OwnI w' w.heap.size v (frontR t.data.toList) ∧ Below w.heap.size w w' := by
  obtain ⟨i0, hi0, hz0, hz1, hz2⟩ := info_parts infoI2
  have hdl : t.data.toList.length = t.size := by simp
  by_cases hlong : 400 < t.size
  · rw [frontR_no (by omega)]
    clear hdl
    go_enter Try.func38, Try.ntmps38
    go_wp2_with fail
    go_step3
    go_wp2_with fail
    try rw [Exit.noGoto_ret]
    go_ret
    exact ⟨_, rfl, OwnI.nil _ _, Below.refl _ _⟩
  · rw [frontR_yes (by omega)]
    have HDL := hideZ hdl
    clear hdl
    have hlong' : ¬ (400 : Int) < (t.size : Int) := by omega
    go_enter Try.func38, Try.ntmps38
    go_wp2_with fail
    go_step3
    go_wp2_with fail
    refine (rising_impl w).mono ?_
    rintro e w1 ⟨rfl, hb1⟩
    have HB1 := hideZ hb1
    have z1 := hb1.size
    clear hb1
    obtain ⟨n, hln⟩ : ∃ n, n = t.size := ⟨_, rfl⟩
    go_wp2_with (first | ((with_reducible refine wpList_alloc_row Try.zeroA89 ?_); intro w2 hb2 hbel2 hs2 ho2; have G2 := hideZ hb2; have HB2 := hideZ (HB1.out.trans (hbel2 _ z1)); clear hb2 hbel2 ho2) | ((with_reducible refine Sh.wpList_store_row' G2.out Try.sizeA89 row0 ?_ ?_ ?_); (· rfl); (· rfl); intro w3 hb3 hbel3 hs3 ho3; have G3 := hideZ hb3; have HB3 := hideZ (HB2.out.trans (hbel3 _ z1)); clear hb3 hbel3 ho3) | (at_make; refine wpList_make_full _ rfl (.tmp 12) (.tmp 12) 23 rfl w3.heap.size 2 i0 (.int .i64 0) 1 Try.underlying23 hi0 hz0 hz1 .i64 .i64 _ _ t.size rfl rfl (by simp) (by simp) (by rw [hz2]; omega) (by unfold maxLen; omega) (Nat.le_refl _) ?_; intro w4 hown4 hgrow4; have HR4 := hideZ (made_ints hown4); have hb4 := (Below.refl w3.heap.size w3).grown hgrow4 (Nat.le_refl _) (by simp); have G4 := hideZ (G3.out.below hb4 (by omega)); have HB4 := hideZ (HB3.out.trans (hb4.mono (by omega))); clear hown4 hgrow4 hb4))
    go_step3
    go_wp2_with fail
    clear hln n
    obtain ⟨g1, hg1⟩ : ∃ g1, g1 = w1.heap.size := ⟨_, rfl⟩
    have e3 : w3.heap.size = w1.heap.size + 1 := by omega
    rw [e3] at HR4
    have hgw : w.heap.size ≤ g1 := by omega
    rw [← hg1] at G4 HR4 ⊢
    obtain ⟨g2, hg2⟩ : ∃ g2, g2 = g1 + 1 := ⟨_, rfl⟩
    have hg12 : g1 < g2 := by omega
    rw [← hg2] at HR4 ⊢
    clear e3 hg1 hg2 hs2 hs3 z1
    obtain ⟨l, hl⟩ : ∃ l, l = t.data.toList := ⟨_, rfl⟩
    rw [← hl] at HDL
    have HL := hideZ hl
    clear hl
    go_loopw [16] (fun i wr => ∃ k : Nat, i = .int .i64 k ∧ k ≤ t.size ∧ IsB wr g1 89 .u8 256 (fst' (l.take k)).2 ∧ IsI wr g2 2 (padI (fst' (l.take k)).1 t.size) ∧ Below w.heap.size w wr) (fun i _ => t.size - (intOf i).toNat)
    case atStart => exact ⟨0, rfl, Nat.zero_le _, G4.out, by simpa [padI, fst'] using HR4.out, HB4.out⟩
    case round =>
      obtain ⟨k, rfl, hk, hrow, hpl, hbel⟩ := hrel
      obtain ⟨hfull, hlen⟩ := fst_full l k (by have := HDL.out; omega)
      have R1 := hideZ hrow
      have T1 := hideZ hpl
      have GB := hideZ hbel
      clear hbel
      by_cases hlt : k < t.size
      · obtain ⟨hkl', hget⟩ := list_get t k hlt
        have hkl : k < l.length := by rw [HDL.out]; exact hlt
        have hge : l[k] = t[k] := by
          have := HL.out
          subst this
          exact hget
        have HM := hideZ (fst_more hkl)
        rw [hge] at HM
        obtain ⟨c, hc⟩ : ∃ c : UInt8, t[k] = c := ⟨_, rfl⟩
        rw [hc] at HM
        obtain ⟨f, hf⟩ : ∃ f, f = (fst' (l.take k)).2 := ⟨_, rfl⟩
        obtain ⟨ps, hps⟩ : ∃ ps, ps = (fst' (l.take k)).1 := ⟨_, rfl⟩
        rw [← hf] at R1 HM hfull
        rw [← hps] at T1 HM hlen
        have hlk := look_some hfull (c := c.toNat) (UInt8.toNat_lt _)
        obtain ⟨q, hq⟩ : ∃ q, q = look f c.toNat := ⟨_, rfl⟩
        rw [← hq] at hlk HM
        have hq256 := hlk.1
        have HLK := hideZ hlk.2
        have HLE := hideZ hlen
        have HFU := hideZ hfull
        clear hget hge hf hps hrow hpl hfull hlen hlk hq
        go_wp2_with fail
        go_loopw [19] (fun i wr2 => ∃ p : Nat, i = .int .i64 p ∧ p ≤ q ∧ IsB wr2 g1 89 .u8 256 f ∧ IsI wr2 g2 2 (padI ps t.size) ∧ Below w.heap.size w wr2) (fun i _ => q - (intOf i).toNat)
        case atStart => exact ⟨0, rfl, Nat.zero_le _, R1.out, T1.out, GB.out⟩
        case round =>
          obtain ⟨p, rfl, hp, hrow2, hpl2, hbel2⟩ := hrel
          have R2 := hideZ hrow2
          have T2 := hideZ hpl2
          have GB2 := hideZ hbel2
          have c1 := hrow2.cell (j := p) (by omega)
          have hbnd := HFU.out.2 p (by omega)
          obtain ⟨y, hy⟩ : ∃ y, y = f p := ⟨_, rfl⟩
          rw [← hy] at c1 hbnd
          have HY := hideZ hy
          clear hrow2 hpl2 hbel2 hy
          by_cases hpq : p = q
          · have hyc : (y == ((c.toNat : Nat) : Int)) = true := beq_iff_eq.2 (by rw [HY.out, hpq]; exact HLK.out.1)
            have hq1 : q < 256 := hq256
            have c2 := T2.out.cell (j := k) (by rw [padI_len _ _ (by have := HLE.out; omega)]; exact hlt)
            have f2 := T2.out.frozen k
            have HT3 : Hid (∀ nq, IsI ((wr.drewN nq).setCell ⟨g2, k, none⟩ (.int .i64 p)) g2 2 (padI (ps ++ [(p : Int)]) t.size)) := fun nq => by
              have h1 : IsI (wr.drewN nq) g2 2 (padI ps t.size) := T2.out
              have h2 := h1.set k (p : Int)
              have h3 := padI_next ps t.size (p : Int) (by have := HLE.out; omega)
              rw [HLE.out] at h3
              rw [h3] at h2
              exact h2
            have HR3 : Hid (∀ nq, IsB ((wr.drewN nq).setCell ⟨g2, k, none⟩ (.int .i64 p)) g1 89 .u8 256 f) := fun nq => by
              have h1 : IsB (wr.drewN nq) g1 89 .u8 256 f := R2.out
              exact h1.set_other _ _ (by simp; omega)
            have HBr := hideZ (fun nq => bring_impl g1 p 89 f _ (HR3.out nq) (by omega))
            have HB3' : Hid (∀ nq, Below w.heap.size w ((wr.drewN nq).setCell ⟨g2, k, none⟩ (.int .i64 p))) := fun nq => (below_drewN GB2.out nq).setCell (p := ⟨g2, k, none⟩) (by simp; omega) _
            rw [← hpq] at HM
            clear hpq
            go_wp2_with fail
            go_quiet (fail)
            all_goals (try go_wp2_with fail)
            refine (HBr.out _).mono ?_
            rintro e w5 ⟨rfl, hb5, ha5⟩
            have G5 := hideZ hb5
            have T5 := hideZ (isI_of_heap (HT3.out _) (ha5.2.2.2.2 g2 (HT3.out _).lt (by omega)))
            have B5 := hideZ (Aft.below (HB3'.out _) ha5 (by omega) (by have := (HT3.out nq).lt; omega))
            clear hb5 ha5
            go_wp2_with fail
            go_roundw
            case rel => exact ⟨k + 1, by go_num, by omega, by rw [HM.out]; exact G5.out, by rw [HM.out]; exact T5.out, B5.out⟩
            case measure => simp [intOf]; omega
          · have hyc : (y == ((c.toNat : Nat) : Int)) = false := beq_eq_false_iff_ne.2 (by rw [HY.out]; exact HLK.out.2 p (by omega))
            go_wp2_with fail
            go_quiet (fail)
            all_goals (try go_wp2_with fail)
            go_roundw
            case rel => exact ⟨p + 1, by go_num, by omega, R2.out, T2.out, below_drewN GB2.out _⟩
            case measure => simp [intOf]; omega
      · obtain rfl : k = t.size := by omega
        have HT : Hid (l.take t.size = l) := by
          unfold Hid
          rw [← HDL.out, List.take_length]
        rw [HT.out] at hpl hlen
        have hpa : padI (fst' l).1 t.size = (fst' l).1 := by
          rw [← hlen]
          exact padI_all _
        rw [hpa] at hpl
        have HV := hideZ (row_own (base := w.heap.size) hpl (by omega) (by unfold maxLen; omega))
        rw [hlen] at HV
        have HLL := HL.out
        rw [HLL] at HV
        clear hrow hpl hfull hlen hpa HLL
        go_wp2_with fail
        try rw [Exit.noGoto_ret]
        go_ret
        exact ⟨_, rfl, HV.out, GB.out⟩
end Go.Proofs.Ytmkpakhpjgocjaa.Fr
