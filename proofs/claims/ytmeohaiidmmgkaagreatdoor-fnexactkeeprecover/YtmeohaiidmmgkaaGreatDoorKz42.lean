/- Texts put together: LsFitsS, KpFit, KpCut, KpPiece. -/
import Derived.Test.YtmeohaiidmmgkaaGreatDoorKz38
import Derived.BigQuiet
import Derived.Deep.QuietTactic
import Derived.Test.YtmeohaiidmmgkaaGreatDoorKz40
import Derived.Test.YtmeohaiidmmgkaaGreatDoorKz41
/- The walks of the specification's Fits. -/
namespace Go.Proofs.YtmeohaiidmmgkaaGreatDoor.Ls
open Go.RowKit
open Go.Proofs.YtmeohaiidmmgkaaGreatDoor.Bk (cnt count_any)
open Go.Proofs.YtmeohaiidmmgkaaGreatDoor.Bi (is_yes is_no)
open Go.Proofs.YtmeohaiidmmgkaaGreatDoor.Tr (inclB incl_spec)
open Go.Proofs.YtmeohaiidmmgkaaGreatDoor.Sh (leafR leafV leafR_yes l03Leaf_any)
open Go.Proofs.YtmeohaiidmmgkaaGreatDoor.St (Strs)
theorem calls_below {P : Program} {f : FuncId} {args : Array Value} {W : World} {v : Value} (h : Calls P f args W fun e w' => e = .returned v ∧ w' = W) : Calls P f args W fun e w' => e = .returned v ∧ Below W.heap.size W w' :=
 h.mono fun e w' q => ⟨q.1, by rw [q.2]; exact Below.refl _ _⟩
theorem calls_drew {P : Program} {f : FuncId} {args : Array Value} {W : World} {v : Value} (h : Calls P f args W fun e w' => e = .returned v ∧ w' = W) : Calls P f args W fun e w' => e = .returned v ∧ ∃ n, w' = W.drewN n :=
 h.mono fun _ _ q => ⟨q.1, 0, q.2⟩
set_option maxRecDepth 100000 in
set_option maxHeartbeats 4000000 in
theorem l07Fits_spec (q k : Nat) (r : ByteArray) (i : Int) (t : ByteArray) (p : List ByteArray) (a : Option Addr) (cap m : Nat) (w : World) (hr : rightB q k r = true) (ht : t.size ≤ 8000) (hm : m = p.length) (hp : m ≤ 1048576) (hs : Strs w w.heap.size a p) :
  Calls Tryz.prog 53 #[lV q k r, .int .i64 i, .string t, .slice a m cap] w fun e w' => e = .returned (.bool (fitsB q k r i t p)) ∧ Below w.heap.size w w' := by
 have h := rightB_yes hr
 have HA : Hid (Below w.heap.size w (w.alloc (.cells #[.int .i64 q, .int .i64 k, .string r] 28))) := (Below.refl _ _).alloc (Nat.le_refl _) _
 have HX : Hid ((w.alloc (.cells #[.int .i64 q, .int .i64 k, .string r] 28)).heap[w.heap.size]? = some (.cells #[.int .i64 q, .int .i64 k, .string r] 28 (0, 0))) := heap_alloc_new w _
 have HC := hideL (fun W => calls_below (count_any q k W (by omega) (by omega) (by omega)))
 have HCq := hideL (fun W => calls_drew (count_any q k W (by omega) (by omega) (by omega)))
 obtain ⟨hcn, hcl⟩ := countN_yes hr
 have HL := hideL (fun W => l03Leaf_any t W ht)
 have HFE : Hid (fitsB q k r i t p = inclB (leafR t) i ((cnt q k : Nat) : Int) p r) := by unfold Hid fitsB; rw [hcn]
 have HI : Hid (∀ W, Below w.heap.size w W → Calls Tryz.prog 70 #[.string (leafV t), .int .i64 i, .int .i64 (cnt q k : Nat), .slice a m cap, .string r] W fun e w' => e = .returned (.bool (inclB (leafV t) i ((cnt q k : Nat) : Int) p r)) ∧ Below W.heap.size W w') := fun W h => by
  have := incl_spec (leafV t) r i (cnt q k : Nat) p a cap W.heap.size W (by omega) (by omega) ((hs.below h).mono h.size) (Nat.le_refl _)
  rw [← hm] at this
  exact this
 have hmx := mixedF
 clear hs hm hr h hcn
 generalize cnt q k = cn at HC HCq HI HFE hcl
 have hsub : IntKind.i64.wrap ((cn : Int) - 1) = (cn : Int) - 1 := by rw [IntKind.wrap_i64]; omega
 by_cases hi : 0 ≤ i ∧ i ≤ (cn : Int) - 1
 ·have HIS := hideL (fun W => calls_below (is_yes i 0 ((cn : Int) - 1) W hi.1 hi.2))
  have HISq := hideL (fun W => calls_drew (is_yes i 0 ((cn : Int) - 1) W hi.1 hi.2))
  by_cases h1 : t.size ≤ 100
  ·have HQ : Hid (fitsB q k r i t p = inclB (leafV t) i ((cn : Nat) : Int) p r) := by rw [HFE.out, leafR_yes t (by omega)]; rfl
   have h1' : decide ((t.size : Int) ≤ 100) = true := by simp; omega
   have h1i : (t.size : Int) ≤ 100 := by omega
   rw [HQ.out]
   clear HQ HFE hi
   generalize inclB (leafV t) i ((cn : Nat) : Int) p r = Q at HI ⊢
   generalize leafV t = lf at HI HL
   unfold lV
   go_enter Tryz.func53, Tryz.ntmps53
   go_wp2_with fail
   generalize hww : w.alloc (.cells #[.int .i64 q, .int .i64 k, .string r] 28) = wa at HA HX ⊢
   clear hww
   obtain ⟨c0, c1, c2⟩ := cells3 HX.out
   generalize w.heap.size = gx at c0 c1 c2 ⊢
   have g0 := fun d os => cell_regrown c0 d os
   have g1 := fun d os => cell_regrown c1 d os
   have g2 := fun d os => cell_regrown c2 d os
   refine wp_region_quiet_below (by assumption) (by kernel_rfl) ?_
   repeat (quiet_step (first | (go_at_call 51; exact Calls.regrown_of (HC.out _)) | (go_at_call 34; exact Calls.regrown_of (HIS.out _)) | (go_at_call 71; exact Calls.regrown_of (HL.out _)) | (go_at_call 70; exact Calls.regrown_of (HI.out _ (lowL HA.out (below_regrown _ _ _))))))
   refine wpQuiet_nil ?_
   intro _ hw'
   obtain ⟨⟨dq, osq⟩, hw''⟩ := hw'
   subst hw''
   have KQ := hideL (below_regrown wa dq osq)
   generalize Go.Sort.grow (redrawn wa dq) osq = w8 at KQ ⊢
   clear g0 g1 g2 c0 c1 c2
   go_wp2_with fail
   go_ret
   exact ⟨rfl, lowL HA.out KQ.out⟩
  ·have HQ := hideL (fits_piece (z := q) (b := k) (r := r) (i := i) (p := p) (t := t) (by omega))
   have h1d : decide ((t.size : Int) ≤ 100) = false := by simp; omega
   have h1n : decide (t.size ≤ 100) = false := by simp; omega
   have h1i : ¬ (t.size : Int) ≤ 100 := by omega
   rw [HQ.out]
   clear HQ HFE hi HI HL
   unfold lV
   go_enter Tryz.func53, Tryz.ntmps53
   go_wp2_with fail
   generalize hww : w.alloc (.cells #[.int .i64 q, .int .i64 k, .string r] 28) = wa at HA HX ⊢
   clear hww
   obtain ⟨c0, c1, c2⟩ := cells3 HX.out
   generalize w.heap.size = gx at c0 c1 c2 ⊢
   go_quiet (first | (go_at_call 51; refine Calls.quiet_of (HCq.out _)) | (go_at_call 34; refine Calls.quiet_of (HISq.out _)))
   all_goals (try go_wp2_with fail)
   all_goals go_ret
   all_goals exact ⟨rfl, lowL HA.out (below_drewN (Below.refl _ _) _)⟩
 ·have HQ : Hid (fitsB q k r i t p = false) := by rw [HFE.out]; exact inclB_range (by omega)
  have HISq : Hid (∀ W, _) := fun W => calls_drew (is_no i 0 ((cn : Int) - 1) W (by omega))
  rw [HQ.out]
  clear HQ HFE hi HI HL
  unfold lV
  go_enter Tryz.func53, Tryz.ntmps53
  go_wp2_with fail
  generalize hww : w.alloc (.cells #[.int .i64 q, .int .i64 k, .string r] 28) = wa at HA HX ⊢
  clear hww
  obtain ⟨c0, c1, c2⟩ := cells3 HX.out
  generalize w.heap.size = gx at c0 c1 c2 ⊢
  go_quiet (first | (go_at_call 51; refine Calls.quiet_of (HCq.out _)) | (go_at_call 34; refine Calls.quiet_of (HISq.out _)))
  all_goals (try go_wp2_with fail)
  all_goals go_ret
  all_goals exact ⟨rfl, lowL HA.out (below_drewN (Below.refl _ _) _)⟩
end Go.Proofs.YtmeohaiidmmgkaaGreatDoor.Ls


/- What fits: the contracts of both sides at every record. -/
namespace Go.Proofs.YtmeohaiidmmgkaaGreatDoor.Kp
open Go.RowKit
open Go.Proofs.YtmeohaiidmmgkaaGreatDoor.Ls (rightB rightB_yes lV vars_keepF l07Fits_spec)
open Go.Proofs.YtmeohaiidmmgkaaGreatDoor.Sh (Vars)
theorem fitC_of (z b : Int) (r : ByteArray) (w : World) (hV : Vars w) : FitC (fitR z b r) z b r w := fun W x hW h1 h2 h3 =>
 fits_rec z b r x W (by unfold maxLen; omega) (by omega) h3.strs (vars_keepF hV hW)
theorem fitS_of (z b : Int) (r : ByteArray) (w : World) (hr : rightB z b r = true) : FitS (fitR z b r) z b r w := fun W x hW h1 h2 h3 => by
 have h4 := rightB_yes hr
 obtain ⟨p, rfl⟩ := Int.eq_ofNat_of_zero_le h4.1
 obtain ⟨k, rfl⟩ := Int.eq_ofNat_of_zero_le (show 0 ≤ b by omega)
 obtain ⟨a, cap, hv, hc, hst⟩ := h3.strs
 rw [hv, fit_short h2]
 exact l07Fits_spec p k r x.1.1 x.1.2.1 x.1.2.2 a cap x.1.2.2.length W hr h1 rfl (by omega) hst
end Go.Proofs.YtmeohaiidmmgkaaGreatDoor.Kp


/- cutKeep, KeepSync, KeepRecover of the program. -/
namespace Go.Proofs.YtmeohaiidmmgkaaGreatDoor.Kp
open Go.RowKit
open Go.Proofs.YtmeohaiidmmgkaaGreatDoor.Ls (HH hh_keep lV lowL blkL)
def syncV (fit : Rec → Bool) (z b : Int) (r s : ByteArray) (y : Int) : Value := if keepB fit z b r s y = true then kV z b r s s.size else kV z b r s y
def recoverV (fit : Rec → Bool) (z b : Int) (r s : ByteArray) (y : Int) : Value := if mayB z b r s = true then kV z b r (s.extract 0 (allR fit s).2) (allR fit s).2 else kV z b r s y
theorem keepB_yes {fit : Rec → Bool} {z b : Int} {r s : ByteArray} {y : Int} (h : keepB fit z b r s y = true) : mayB z b r s = true ∧ (allR fit s).2 = s.size ∧ spanB s y = true := by
 unfold keepB atB at h
 simp only [Bool.and_eq_true, decide_eq_true_eq] at h
 exact ⟨h.1.1, h.1.2, h.2⟩
set_option maxRecDepth 100000 in
set_option maxHeartbeats 4000000 in
theorem keepSync_impl (fit : Rec → Bool) (z b : Int) (r s : ByteArray) (y : Int) (w : World) (hs : s.size ≤ 1048576) (hh : HH w) (hf : FitC fit z b r w) :
  Calls Tryz.prog 20 #[kV z b r s y] w fun e w' => e = .returned (syncV fit z b r s y) ∧ Below w.heap.size w w' := by
 have C0 := hideK (((Cx.nil w).new (kB z b r s y)).new kZ)
 simp only [World.size_alloc] at C0
 have HO := hideK (fun W (h : Below w.heap.size w W) => openKeep_any fit z b r s y W hs (hh_keep hh h) (hf.later h))
 have HR := hideK (fun g v W h => right_any g v (allR fit s).2 z b r s y W h)
 have HCK := hideK (fun e W he => cutKeep_any z b r s y e W hs he)
 change Hid (∀ g v W h, Calls _ _ _ W fun e w' => e = .returned (.bool (keepB fit z b r s y)) ∧ _) at HR
 have HY : Hid (keepB fit z b r s y = true → (allR fit s).2 = s.size ∧ syncV fit z b r s y = kV z b r s s.size) := fun h => ⟨(keepB_yes h).2.1, if_pos h⟩
 have HN : Hid (keepB fit z b r s y = false → syncV fit z b r s y = kV z b r s y) := fun h => if_neg (by rw [h]; exact Bool.false_ne_true)
 clear hh hf
 generalize syncV fit z b r s y = A at HY HN ⊢
 have HLE := hideK (allR_le fit s)
 unfold OpenOut at HO
 unfold kV at HO HCK HY HN ⊢
 unfold kB kZ at C0
 go_enter Tryz.func20, Tryz.ntmps20
 go_wp2_with fail
 generalize (w.alloc _).alloc _ = W0 at C0 ⊢
 generalize hgk : w.heap.size = gk at C0 ⊢
 have HGK := hideK hgk
 clear hgk
 refine (HO.out _ C0.out.low).mono ?_
 rintro e w1 ⟨⟨v, m, rfl, h1, h2, h3⟩, hb⟩
 obtain ⟨a0, cap0, hv⟩ := h2.one
 subst hv
 have C1 := hideK ((C0.out.call hb).new (wkB (.slice a0 m.length cap0) (allR fit s).2 z b r s y))
 clear hb h1 h2 h3 HO C0
 unfold wkB at C1
 go_wp2_with fail
 generalize w1.alloc _ = W1 at C1 ⊢
 generalize w1.heap.size = gw at C1 ⊢
 refine (HR.out gw _ W1 (C1.out.get 0 rfl)).mono ?_
 rintro e w2 ⟨rfl, hb⟩
 have C2 := hideK (C1.out.call hb)
 clear hb C1
 obtain ⟨k0, k1, k2, k3, k4⟩ := k_cells (C2.out.get 2 rfl)
 obtain ⟨q0, q1, q2, q3, q4⟩ := cells5 (C2.out.get 1 rfl)
 have ff := fun o => frozen_of_row w2 (gk + 1) o _ _ (C2.out.get 1 rfl)
 obtain ⟨d0, d1, d2, d3, d4, d5, d6⟩ := wk_cells (C2.out.get 0 rfl)
 cases hk : keepB fit z b r s y with
 | false =>
  have HE := hideK (HN.out hk)
  clear hk HY HN HR HCK
  have HF := hideK (ans5 (C2.out.get 1 rfl) C2.out.low (by have := HGK.out; omega) (.int .i64 z) (.int .i64 b) (.string r) (.string s) (.int .i64 y))
  have s5 := cells5 HF.out.2
  have HF1 := HF.out.1
  go_wp2_with fail
  exact bodyPost_ret (v := .agg #[.int .i64 z, .int .i64 b, .string r, .string s, .int .i64 y]) (by simp [results, Tryz.results20, go_sem, s5.1, s5.2.1, s5.2.2.1, s5.2.2.2.1, s5.2.2.2.2]) rfl ⟨by rw [HE.out], HF1⟩
 | true =>
  have HE := hideK (HY.out hk).2
  have HX := hideK (HY.out hk).1
  clear hk HY HN HR
  have HCK1 : Hid (∀ W, Calls Tryz.prog 44 #[.agg #[.int .i64 z, .int .i64 b, .string r, .string s, .int .i64 y], .int .i64 ((allR fit s).2 : Nat)] W fun q w' => q = .returned (.agg #[.int .i64 z, .int .i64 b, .string r, .string s, .int .i64 s.size]) ∧ Below W.heap.size W w') := fun W => by
   have := HCK.out (allR fit s).2 W HLE.out
   rw [HX.out] at this ⊢
   rw [ByteArray.extract_zero_size] at this
   exact this
  clear HCK
  generalize (allR fit s).2 = e at HCK1 C2 d1 HX HLE ⊢
  go_wp2_with fail
  refine (HCK1.out _).mono ?_
  rintro q w3 ⟨rfl, hb⟩
  have C3 := hideK (C2.out.call hb)
  clear hb C2 HCK1 k0 k1 k2 k3 k4 q0 q1 q2 q3 q4 ff d0 d1 d2 d3 d4 d5 d6
  obtain ⟨q0, q1, q2, q3, q4⟩ := cells5 (C3.out.get 1 rfl)
  have ff := fun o => frozen_of_row w3 (gk + 1) o _ _ (C3.out.get 1 rfl)
  have HF := hideK (ans5 (C3.out.get 1 rfl) C3.out.low (by have := HGK.out; omega) (.int .i64 z) (.int .i64 b) (.string r) (.string s) (.int .i64 s.size))
  have s5 := cells5 HF.out.2
  have HF1 := HF.out.1
  go_wp2_with fail
  exact bodyPost_ret (v := .agg #[.int .i64 z, .int .i64 b, .string r, .string s, .int .i64 s.size]) (by simp [results, Tryz.results20, go_sem, s5.1, s5.2.1, s5.2.2.1, s5.2.2.2.1, s5.2.2.2.2]) rfl ⟨by rw [HE.out], HF1⟩
theorem fieldW (v0 v1 v2 v3 v4 v5 v6 : Value) (u : World) : Sem.run Tryz.prog (Instr.field 64 (.agg #[v0, v1, v2, v3, v4, v5, v6]) 0) u = .ok (.agg #[v0, v1]) u := by kernel_rfl
theorem fieldP (v0 : Value) (n : Int) (u : World) : Sem.run Tryz.prog (Instr.field 62 (.agg #[v0, .int .i64 n]) 1) u = .ok (.int .i64 n) u := by kernel_rfl
set_option maxRecDepth 100000 in
set_option maxHeartbeats 4000000 in
theorem keepRecover_impl (fit : Rec → Bool) (z b : Int) (r s : ByteArray) (y : Int) (w : World) (hs : s.size ≤ 1048576) (hh : HH w) (hf : FitC fit z b r w) :
  Calls Tryz.prog 23 #[kV z b r s y] w fun e w' => e = .returned (recoverV fit z b r s y) ∧ Below w.heap.size w w' := by
 have C0 := hideK (((Cx.nil w).new (kB z b r s y)).new kZ)
 simp only [World.size_alloc] at C0
 have HO := hideK (fun W (h : Below w.heap.size w W) => openKeep_any fit z b r s y W hs (hh_keep hh h) (hf.later h))
 have HM := hideK (fun W => mayOpen_any z b r s y W)
 have HCK := hideK (fun W => cutKeep_any z b r s y (allR fit s).2 W hs (allR_le fit s))
 have HY : Hid (mayB z b r s = true → recoverV fit z b r s y = kV z b r (s.extract 0 (allR fit s).2) (allR fit s).2) := fun h => if_pos h
 have HN : Hid (mayB z b r s = false → recoverV fit z b r s y = kV z b r s y) := fun h => if_neg (by rw [h]; exact Bool.false_ne_true)
 clear hh hf
 generalize recoverV fit z b r s y = A at HY HN ⊢
 unfold OpenOut at HO
 unfold kV at HO HM HCK HY HN ⊢
 unfold kB kZ at C0
 go_enter Tryz.func23, Tryz.ntmps23
 go_wp2_with fail
 generalize (w.alloc _).alloc _ = W0 at C0 ⊢
 generalize hgk : w.heap.size = gk at C0 ⊢
 have HGK := hideK hgk
 clear hgk
 refine (HM.out _).mono ?_
 rintro e w2 ⟨rfl, hb⟩
 have C2 := hideK (C0.out.call hb)
 clear hb C0
 obtain ⟨k0, k1, k2, k3, k4⟩ := k_cells (C2.out.get 1 rfl)
 obtain ⟨q0, q1, q2, q3, q4⟩ := cells5 (C2.out.get 0 rfl)
 have ff := fun o => frozen_of_row w2 (gk + 1) o _ _ (C2.out.get 0 rfl)
 cases hk : mayB z b r s with
 | false =>
  have HE := hideK (HN.out hk)
  clear hk HY HN HM HCK HO
  have HF := hideK (ans5 (C2.out.get 0 rfl) C2.out.low (by have := HGK.out; omega) (.int .i64 z) (.int .i64 b) (.string r) (.string s) (.int .i64 y))
  have s5 := cells5 HF.out.2
  have HF1 := HF.out.1
  go_wp2_with fail
  exact bodyPost_ret (v := .agg #[.int .i64 z, .int .i64 b, .string r, .string s, .int .i64 y]) (by simp [results, Tryz.results23, go_sem, s5.1, s5.2.1, s5.2.2.1, s5.2.2.2.1, s5.2.2.2.2]) rfl ⟨by rw [HE.out], HF1⟩
 | true =>
  have HE := hideK (HY.out hk)
  clear hk HY HN HM k0 k1 k2 k3 k4 q0 q1 q2 q3 q4 ff
  go_upto_region 3 with fail
  have CX : Hid (∀ W, Below w2.heap.size w2 W → W.cell? ⟨gk, 0, none⟩ = some (.int .i64 z) ∧ W.cell? ⟨gk, 1, none⟩ = some (.int .i64 b) ∧ W.cell? ⟨gk, 2, none⟩ = some (.string r) ∧ W.cell? ⟨gk, 3, none⟩ = some (.string s) ∧ W.cell? ⟨gk, 4, none⟩ = some (.int .i64 y)) := fun W h => k_cells (blkL (C2.out.get 1 rfl) h)
  have CR : Hid (∀ W, Below w2.heap.size w2 W → (W.cell? ⟨gk + 1, 0, none⟩ = some (.int .i64 0) ∧ W.cell? ⟨gk + 1, 1, none⟩ = some (.int .i64 0) ∧ W.cell? ⟨gk + 1, 2, none⟩ = some (.string ⟨#[]⟩) ∧ W.cell? ⟨gk + 1, 3, none⟩ = some (.string ⟨#[]⟩) ∧ W.cell? ⟨gk + 1, 4, none⟩ = some (.int .i64 0)) ∧ W.frozen? ⟨gk + 1, 0, none⟩ = false ∧ W.frozen? ⟨gk + 1, 1, none⟩ = false ∧ W.frozen? ⟨gk + 1, 2, none⟩ = false ∧ W.frozen? ⟨gk + 1, 3, none⟩ = false ∧ W.frozen? ⟨gk + 1, 4, none⟩ = false) := fun W h => five_of (blkL (C2.out.get 0 rfl) h)
  have K0 : Hid (Below w2.heap.size w2 w2.drew) := (Below.refl _ _).drew
  have HO2 := hideK (fun W (h : Below w2.heap.size w2 W) => HO.out W (lowL C2.out.low h))
  have HFIN : Hid (∀ (W : World) (t : ByteArray) (e : Nat), Below w2.heap.size w2 W → Below w.heap.size w (((((W.setCell ⟨gk + 1, 0, none⟩ (.int .i64 z)).setCell ⟨gk + 1, 1, none⟩ (.int .i64 b)).setCell ⟨gk + 1, 2, none⟩ (.string r)).setCell ⟨gk + 1, 3, none⟩ (.string t)).setCell ⟨gk + 1, 4, none⟩ (.int .i64 e)) ∧ (((((W.setCell ⟨gk + 1, 0, none⟩ (.int .i64 z)).setCell ⟨gk + 1, 1, none⟩ (.int .i64 b)).setCell ⟨gk + 1, 2, none⟩ (.string r)).setCell ⟨gk + 1, 3, none⟩ (.string t)).setCell ⟨gk + 1, 4, none⟩ (.int .i64 e)).heap[gk + 1]? = some (.cells #[.int .i64 z, .int .i64 b, .string r, .string t, .int .i64 e] 30 (0, 0))) := fun W t e h => by
   have := ans5 (blkL (C2.out.get 0 rfl) h) (lowL C2.out.low h) (by have := HGK.out; omega) (.int .i64 z) (.int .i64 b) (.string r) (.string t) (.int .i64 e)
   exact this
  generalize s.extract 0 (allR fit s).2 = t at HCK HE
  generalize (allR fit s).2 = e at HO2 HCK HE
  clear C2 HO
  obtain ⟨k0, k1, k2, k3, k4⟩ := CX.out _ (Below.refl _ _)
  have fW := fun v u => fieldW v (.int .i64 e) (.int .i64 z) (.int .i64 b) (.string r) (.string s) (.int .i64 y) u
  have fP := fun v u => fieldP v e u
  go_region_with (first | (go_at_call 37; (with_reducible refine (HO2.out _ K0.out).mono ?_); rintro q v1 ⟨⟨v, m, rfl, h1, h2, h3⟩, hb⟩; obtain ⟨a0, cap0, hv⟩ := h2.one; subst hv; have K1 := hideK (lowL K0.out hb); obtain ⟨m0, m1, m2, m3, m4⟩ := CX.out _ K1.out; clear hb h1 h2 h3) | (go_at_call 44; (with_reducible refine (HCK.out _).mono ?_); rintro q v2 ⟨rfl, hb⟩; have K2 := hideK (lowL K1.out hb); obtain ⟨⟨n0, n1, n2, n3, n4⟩, f0, f1, f2, f3, f4⟩ := CR.out _ K2.out; clear hb))
  all_goals (try go_wp2_with fail)
  all_goals (
   obtain ⟨HF1, HF2⟩ := HFIN.out _ t e K2.out
   have s5 := cells5 HF2
   exact bodyPost_ret (v := .agg #[.int .i64 z, .int .i64 b, .string r, .string t, .int .i64 e]) (by simp [results, Tryz.results23, go_sem, s5.1, s5.2.1, s5.2.2.1, s5.2.2.2.1, s5.2.2.2.2]) rfl ⟨by rw [HE.out], HF1⟩)
end Go.Proofs.YtmeohaiidmmgkaaGreatDoor.Kp


/- PieceOf of the program. -/
namespace Go.Proofs.YtmeohaiidmmgkaaGreatDoor.Kp
open Go.RowKit
open Go.Proofs.YtmeohaiidmmgkaaGreatDoor.Ls (HH hh_keep lV lowL blkL cells3 set3_all)
def pieceR (out : List Rec) (i : Int) : Option ByteArray := (out.find? fun x => x.1 == i).map (·.2.1)
def pieceV (fit : Rec → Bool) (z b : Int) (r s : ByteArray) (y i : Int) : Value :=
 if keepB fit z b r s y = true then
  match pieceR (allR fit s).1 i with
  | some t => .agg #[.string t, .int .i64 0, .int .i64 0]
  | none => .agg #[.string ⟨#[]⟩, .int .i64 0, .int .i64 6]
 else .agg #[.string ⟨#[]⟩, .int .i64 0, .int .i64 1]
theorem piece_some {m : List MR} {i : Int} {j : Nat} (hj : j < m.length) (h : m[j].1.1 = i) (hno : ∀ k (hk : k < j), ¬ (m[k]'(Nat.lt_trans hk hj)).1.1 = i) : pieceR (recs m) i = some m[j].1.2.1 := by
 have : (recs m).find? (fun x => x.1 == i) = some m[j].1 := by
  rw [List.find?_eq_some_iff_getElem]
  refine ⟨by simpa using h, j, by rw [recs_length]; exact hj, by simp [recs], fun k hk => ?_⟩
  have := hno k hk
  simp only [recs, List.getElem_map, Bool.not_eq_true', beq_eq_false_iff_ne]
  exact this
 unfold pieceR
 rw [this]
 rfl
theorem piece_none {m : List MR} {i : Int} (hno : ∀ k (hk : k < m.length), ¬ m[k].1.1 = i) : pieceR (recs m) i = none := by
 have : (recs m).find? (fun x => x.1 == i) = none := by
  rw [List.find?_eq_none]
  intro x hx
  obtain ⟨k, hk, rfl⟩ := List.getElem_of_mem hx
  rw [recs_length] at hk
  have := hno k hk
  simpa [recs] using this
 unfold pieceR
 rw [this]
 rfl
def tZ : Obj := .cells #[.string ⟨#[]⟩, .int .i64 0, .int .i64 0] 49
set_option maxRecDepth 100000 in
set_option maxHeartbeats 4000000 in
theorem pieceOf_impl (fit : Rec → Bool) (z b : Int) (r s : ByteArray) (y i : Int) (w : World) (hs : s.size ≤ 1048576) (hh : HH w) (hf : FitC fit z b r w) :
  Calls Tryz.prog 30 #[kV z b r s y, .int .i64 i] w fun e w' => e = .returned (pieceV fit z b r s y i) ∧ Below w.heap.size w w' := by
 have C0 := hideK (((Cx.nil w).new (kB z b r s y)).new tZ)
 simp only [World.size_alloc] at C0
 have HO := hideK (fun W (h : Below w.heap.size w W) => openKeep_any fit z b r s y W hs (hh_keep hh h) (hf.later h))
 have HR := hideK (fun g v W h => right_any g v (allR fit s).2 z b r s y W h)
 change Hid (∀ g v W h, Calls _ _ _ W fun e w' => e = .returned (.bool (keepB fit z b r s y)) ∧ _) at HR
 have HY : Hid (keepB fit z b r s y = true → pieceV fit z b r s y i = match pieceR (allR fit s).1 i with
  | some t => .agg #[.string t, .int .i64 0, .int .i64 0]
  | none => .agg #[.string ⟨#[]⟩, .int .i64 0, .int .i64 6]) := fun h => if_pos h
 have HN : Hid (keepB fit z b r s y = false → pieceV fit z b r s y i = .agg #[.string ⟨#[]⟩, .int .i64 0, .int .i64 1]) := fun h => if_neg (by rw [h]; exact Bool.false_ne_true)
 clear hh hf
 generalize pieceV fit z b r s y i = A at HY HN ⊢
 unfold OpenOut at HO
 unfold kV at HO ⊢
 unfold kB tZ at C0
 go_enter Tryz.func30, Tryz.ntmps30
 go_wp2_with fail
 generalize (w.alloc _).alloc _ = W0 at C0 ⊢
 generalize hgk : w.heap.size = gk at C0 ⊢
 have HGK := hideK hgk
 clear hgk
 refine (HO.out _ C0.out.low).mono ?_
 rintro e w1 ⟨⟨v, m, rfl, h1, h2, h3⟩, hb⟩
 obtain ⟨a0, cap0, hv⟩ := h2.one
 subst hv
 have C1 := hideK ((C0.out.call hb).new (wkB (.slice a0 m.length cap0) (allR fit s).2 z b r s y))
 have OW := hideK (h2.alloc (wkB (.slice a0 m.length cap0) (allR fit s).2 z b r s y))
 have PS := hideK h3.slices
 have RS := hideK h1
 clear hb h1 h2 h3 HO C0
 unfold wkB at C1 OW
 go_wp2_with fail
 generalize w1.alloc _ = W1 at C1 OW ⊢
 generalize w1.heap.size = gw at C1 ⊢
 refine (HR.out gw _ W1 (C1.out.get 0 rfl)).mono ?_
 rintro e w2 ⟨rfl, hb⟩
 have C2 := hideK (C1.out.call hb)
 have OW2 := hideK (OW.out.below hb)
 clear hb C1 OW HR
 obtain ⟨q0, q1, q2⟩ := cells3 (C2.out.get 1 rfl)
 have ff := fun o => frozen_of_row w2 (gk + 1) o _ _ (C2.out.get 1 rfl)
 cases hk : keepB fit z b r s y with
 | false =>
  have HE := hideK (HN.out hk)
  clear hk HY HN
  have s3 := set3_all (C2.out.get 1 rfl) (.string ⟨#[]⟩) (.int .i64 0) (.int .i64 1)
  have E3 := hideK (set3_low C2.out.low (g := gk + 1) (by have := HGK.out; omega) (.string ⟨#[]⟩) (.int .i64 0) (.int .i64 1))
  go_wp2_with fail
  exact bodyPost_ret (v := .agg #[.string ⟨#[]⟩, .int .i64 0, .int .i64 1]) (by simp [results, Tryz.results30, go_sem, s3.1, s3.2.1, s3.2.2]) rfl ⟨by rw [HE.out], E3.out⟩
 | true =>
  have HE := hideK (HY.out hk)
  rw [← RS.out] at HE
  have hml : m.length ≤ 1048576 := by
   have h1 := allR_many fit s
   have h2 := allR_le fit s
   rw [← RS.out, recs_length] at h1
   omega
  have HFI := hideK (find_any gw _ m.length i _ m w2 (wk_cells (C2.out.get 0 rfl)).1 (lt_rowK (C2.out.get 0 rfl)) OW2.out PS.out rfl hml)
  clear hk HY HN
  go_wp2_with fail
  refine HFI.out.mono ?_
  rintro e w3 ⟨⟨j, hj, he, hno, rfl⟩ | ⟨hno, rfl⟩, hb⟩
  ·obtain ⟨ap, np, cp, hpv⟩ := PS.out m[j] (List.getElem_mem hj)
   rw [piece_some hj he hno] at HE
   rw [hpv]
   generalize m[j].1.2.1 = t at HE ⊢
   have C3 := hideK ((C2.out.call hb).new (.cells #[.int .i64 i, .string t, .slice ap np cp] 71))
   clear hb C2 OW2 HFI q0 q1 q2 ff he hno
   go_upto_region 5 with fail
   generalize w3.alloc _ = W3 at C3 ⊢
   generalize w3.heap.size = g3 at C3 ⊢
   obtain ⟨q0, q1, q2⟩ := cells3 (C3.out.get 2 rfl)
   obtain ⟨x0, x1, x2⟩ := cells3 (C3.out.get 0 rfl)
   have ff := fun o => frozen_of_row W3 (gk + 1) o _ _ (C3.out.get 2 rfl)
   have s3 := set3_all (C3.out.get 2 rfl) (.string t) (.int .i64 0) (.int .i64 0)
   have E3 := hideK (set3_low C3.out.low (g := gk + 1) (by have := HGK.out; omega) (.string t) (.int .i64 0) (.int .i64 0))
   go_wp2_with fail
   exact bodyPost_ret (v := .agg #[.string t, .int .i64 0, .int .i64 0]) (by simp [results, Tryz.results30, go_sem, s3.1, s3.2.1, s3.2.2]) rfl ⟨by rw [HE.out], E3.out⟩
  ·rw [piece_none hno] at HE
   have C3 := hideK ((C2.out.call hb).new (.cells #[.int .i64 0, .string ⟨#[]⟩, .slice none 0 0] 71))
   clear hb C2 OW2 HFI q0 q1 q2 ff hno
   go_upto_region 5 with fail
   generalize w3.alloc _ = W3 at C3 ⊢
   generalize w3.heap.size = g3 at C3 ⊢
   obtain ⟨q0, q1, q2⟩ := cells3 (C3.out.get 2 rfl)
   have ff := fun o => frozen_of_row W3 (gk + 1) o _ _ (C3.out.get 2 rfl)
   have s3 := set3_all (C3.out.get 2 rfl) (.string ⟨#[]⟩) (.int .i64 0) (.int .i64 6)
   have E3 := hideK (set3_low C3.out.low (g := gk + 1) (by have := HGK.out; omega) (.string ⟨#[]⟩) (.int .i64 0) (.int .i64 6))
   go_wp2_with fail
   exact bodyPost_ret (v := .agg #[.string ⟨#[]⟩, .int .i64 0, .int .i64 6]) (by simp [results, Tryz.results30, go_sem, s3.1, s3.2.1, s3.2.2]) rfl ⟨by rw [HE.out], E3.out⟩
end Go.Proofs.YtmeohaiidmmgkaaGreatDoor.Kp

