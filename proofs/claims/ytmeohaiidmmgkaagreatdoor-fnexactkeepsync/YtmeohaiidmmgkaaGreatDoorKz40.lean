/- Texts put together: KpSync, KpMay, KpTop, UnsealSpec. -/
import Derived.Test.YtmeohaiidmmgkaaGreatDoorKz20
import Derived.Test.YtmeohaiidmmgkaaGreatDoorKz12
import Derived.Test.YtmeohaiidmmgkaaGreatDoorKz39
import Derived.Lib.QuietBelow
import Derived.BigQuiet
import Derived.Deep.RegionHeld3
import Derived.Test.YtmeohaiidmmgkaaGreatDoorKz31
/- syncedRight, cutKeep. -/
namespace Go.Proofs.YtmeohaiidmmgkaaGreatDoor.Kp
open Go.RowKit
open Go.Proofs.YtmeohaiidmmgkaaGreatDoor.Ls (blkL lowL)
def spanB (s : ByteArray) (y : Int) : Bool := decide (0 ≤ y) && decide (y ≤ s.size)
set_option maxRecDepth 100000 in
set_option maxHeartbeats 1000000 in
theorem synced_any (z b : Int) (r s : ByteArray) (y : Int) (w : World) :
  Calls Tryz.prog 56 #[kV z b r s y] w fun e w' => e = .returned (.bool (spanB s y)) ∧ Below w.heap.size w w' := by
 have HB : Hid (Below w.heap.size w (w.alloc (kB z b r s y))) := (Below.refl _ _).alloc (Nat.le_refl _) _
 unfold kV
 unfold kB at HB
 by_cases h0 : 0 ≤ y
 ·have HM : Hid (spanB s y = decide (y ≤ ((s.size : Nat) : Int))) := by unfold Hid spanB; rw [decide_eq_true h0, Bool.true_and]
  rw [HM.out]
  go_enter Tryz.func56, Tryz.ntmps56
  go_wp2_with fail
  go_ret
  exact ⟨rfl, HB.out⟩
 ·have HM : Hid (spanB s y = false) := by unfold Hid spanB; rw [decide_eq_false h0, Bool.false_and]
  rw [HM.out]
  have h0' : decide (0 ≤ y) = false := decide_eq_false h0
  go_enter Tryz.func56, Tryz.ntmps56
  go_wp2_with fail
  go_ret
  exact ⟨rfl, HB.out⟩
set_option maxRecDepth 100000 in
set_option maxHeartbeats 2000000 in
theorem cutKeep_any (z b : Int) (r s : ByteArray) (y : Int) (e : Nat) (w : World) (hs : s.size ≤ 1048576) (he : e ≤ s.size) :
  Calls Tryz.prog 44 #[kV z b r s y, .int .i64 e] w fun q w' => q = .returned (kV z b r (s.extract 0 e) e) ∧ Below w.heap.size w w' := by
 have HC : Hid (∀ W, Calls Tryz.prog 64 #[.string s, .int .i64 0, .int .i64 e] W fun q w' => q = .returned (.string (s.extract 0 e)) ∧ Below W.heap.size W w') := fun W => Nu.cut_any s 0 e W hs (Nat.zero_le _) he
 have C0 := hideK (((Cx.nil w).new (kB z b r s y)).new kZ)
 simp only [World.size_alloc] at C0
 unfold kV
 unfold kB kZ at C0
 generalize s.extract 0 e = t at HC ⊢
 go_enter Tryz.func44, Tryz.ntmps44
 go_upto_region 1 with fail
 generalize (w.alloc _).alloc _ = W0 at C0 ⊢
 generalize hgk : w.heap.size = gk at C0 ⊢
 have HGK := hideK hgk
 clear hgk
 have CX : Hid (∀ W, Below W0.heap.size W0 W → W.cell? ⟨gk, 0, none⟩ = some (.int .i64 z) ∧ W.cell? ⟨gk, 1, none⟩ = some (.int .i64 b) ∧ W.cell? ⟨gk, 2, none⟩ = some (.string r) ∧ W.cell? ⟨gk, 3, none⟩ = some (.string s)) := fun W h => by
  obtain ⟨h0, h1, h2, h3, _⟩ := k_cells (blkL (C0.out.get 1 rfl) h)
  exact ⟨h0, h1, h2, h3⟩
 have CR : Hid (∀ W, Below W0.heap.size W0 W → (W.cell? ⟨gk + 1, 0, none⟩ = some (.int .i64 0) ∧ W.cell? ⟨gk + 1, 1, none⟩ = some (.int .i64 0) ∧ W.cell? ⟨gk + 1, 2, none⟩ = some (.string ⟨#[]⟩) ∧ W.cell? ⟨gk + 1, 3, none⟩ = some (.string ⟨#[]⟩) ∧ W.cell? ⟨gk + 1, 4, none⟩ = some (.int .i64 0)) ∧ W.frozen? ⟨gk + 1, 0, none⟩ = false ∧ W.frozen? ⟨gk + 1, 1, none⟩ = false ∧ W.frozen? ⟨gk + 1, 2, none⟩ = false ∧ W.frozen? ⟨gk + 1, 3, none⟩ = false ∧ W.frozen? ⟨gk + 1, 4, none⟩ = false) := fun W h => five_of (blkL (C0.out.get 0 rfl) h)
 have K0 : Hid (Below W0.heap.size W0 W0.drew) := (Below.refl _ _).drew
 have HFIN : Hid (∀ W, Below W0.heap.size W0 W → Below w.heap.size w (((((W.setCell ⟨gk + 1, 0, none⟩ (.int .i64 z)).setCell ⟨gk + 1, 1, none⟩ (.int .i64 b)).setCell ⟨gk + 1, 2, none⟩ (.string r)).setCell ⟨gk + 1, 3, none⟩ (.string t)).setCell ⟨gk + 1, 4, none⟩ (.int .i64 e)) ∧ (((((W.setCell ⟨gk + 1, 0, none⟩ (.int .i64 z)).setCell ⟨gk + 1, 1, none⟩ (.int .i64 b)).setCell ⟨gk + 1, 2, none⟩ (.string r)).setCell ⟨gk + 1, 3, none⟩ (.string t)).setCell ⟨gk + 1, 4, none⟩ (.int .i64 e)).heap[gk + 1]? = some (.cells #[.int .i64 z, .int .i64 b, .string r, .string t, .int .i64 e] 30 (0, 0))) := fun W h =>
  ⟨set5_low (lowL C0.out.low h) (by have := HGK.out; omega) _ _ _ _ _, set5 (blkL (C0.out.get 0 rfl) h) _ _ _ _ _⟩
 clear C0
 obtain ⟨k0, k1, k2, k3⟩ := CX.out _ (Below.refl _ _)
 go_region_with (go_at_call 64; (with_reducible refine (HC.out _).mono ?_); rintro q v1 ⟨rfl, hb⟩; have K1 := hideK (lowL K0.out hb); obtain ⟨m0, m1, m2, m3⟩ := CX.out _ K1.out; obtain ⟨⟨n0, n1, n2, n3, n4⟩, f0, f1, f2, f3, f4⟩ := CR.out _ K1.out; clear hb)
 all_goals (try go_wp2_with fail)
 all_goals (
  obtain ⟨HF1, HF2⟩ := HFIN.out _ K1.out
  have s5 := cells5 HF2
  exact bodyPost_ret (v := .agg #[.int .i64 z, .int .i64 b, .string r, .string t, .int .i64 e]) (by simp [results, Tryz.results44, go_sem, s5.1, s5.2.1, s5.2.2.1, s5.2.2.2.1, s5.2.2.2.2]) rfl ⟨rfl, HF1⟩)
end Go.Proofs.YtmeohaiidmmgkaaGreatDoor.Kp


/- mayOpen, syncedRight, right: is a keep right? -/
namespace Go.Proofs.YtmeohaiidmmgkaaGreatDoor.Kp
open Go.RowKit
open Go.Proofs.YtmeohaiidmmgkaaGreatDoor.Ls (rightB right_impl lV lowL blkL)
def mayB (z b : Int) (r s : ByteArray) : Bool := rightB z b r && decide (s.size ≤ 8000)
def atB (z b : Int) (r s : ByteArray) (y : Int) (e : Nat) : Bool := mayB z b r s && decide (e = s.size) && spanB s y
def keepB (fit : Rec → Bool) (z b : Int) (r s : ByteArray) (y : Int) : Bool := atB z b r s y (allR fit s).2
set_option maxRecDepth 100000 in
set_option maxHeartbeats 1000000 in
theorem mayOpen_any (z b : Int) (r s : ByteArray) (y : Int) (w : World) :
  Calls Tryz.prog 46 #[kV z b r s y] w fun e w' => e = .returned (.bool (mayB z b r s)) ∧ Below w.heap.size w w' := by
 have HR := hideK (fun W => right_impl z b r W)
 have C0 := hideK ((Cx.nil w).new (kB z b r s y))
 unfold kV
 unfold kB at C0
 unfold lV at HR
 cases hr : rightB z b r with
 | false =>
  have HM : Hid (mayB z b r s = false) := by unfold Hid mayB; rw [hr]; rfl
  rw [HM.out]
  rw [hr] at HR
  clear hr HM
  go_enter Tryz.func46, Tryz.ntmps46
  go_wp2_with fail
  refine (HR.out _).mono ?_
  rintro e w1 ⟨rfl, hb⟩
  have C1 := hideK (C0.out.call hb)
  obtain ⟨l0, l1, l2, l3, l4⟩ := k_cells (C1.out.get 0 rfl)
  clear hb C0
  go_wp2_with fail
  go_ret
  exact ⟨rfl, C1.out.low⟩
 | true =>
  have HM : Hid (mayB z b r s = decide (((s.size : Nat) : Int) ≤ 8000)) := by unfold Hid mayB; rw [hr, Bool.true_and, decide_eq_decide]; omega
  rw [HM.out]
  rw [hr] at HR
  clear hr HM
  go_enter Tryz.func46, Tryz.ntmps46
  go_wp2_with fail
  refine (HR.out _).mono ?_
  rintro e w1 ⟨rfl, hb⟩
  have C1 := hideK (C0.out.call hb)
  obtain ⟨l0, l1, l2, l3, l4⟩ := k_cells (C1.out.get 0 rfl)
  clear hb C0
  go_wp2_with fail
  go_ret
  exact ⟨rfl, C1.out.low⟩
theorem mixedK : Tryz.prog.follows .mixedOrders = true := by kernel_rfl
set_option maxRecDepth 100000 in
set_option maxHeartbeats 1000000 in
theorem right_run (g : Nat) (v : Value) (e : Nat) (z b : Int) (r s : ByteArray) (y : Int) (w : World) (A B Q : Bool) (hg : w.heap[g]? = some (wkB v e z b r s y)) (hA : mayB z b r s = A) (hB : ((e : Int) == (s.size : Int)) = B) (hQ : (A && B && spanB s y) = Q) :
  Calls Tryz.prog 38 #[.pointer (some ⟨g, 0, none⟩)] w fun q w' => q = .returned (.bool Q) ∧ Below w.heap.size w w' := by
 have HM := hideK (fun W => mayOpen_any z b r s y W)
 have HS := hideK (fun W => synced_any z b r s y W)
 obtain ⟨c0, c1, c2, c3, c4, c5, c6⟩ := wk_cells hg
 unfold kV at HM HS
 rw [hA] at HM
 clear hA hg
 have g1 := fun d os => cell_regrown c1 d os
 have g2 := fun d os => cell_regrown c2 d os
 have g3 := fun d os => cell_regrown c3 d os
 have g4 := fun d os => cell_regrown c4 d os
 have g5 := fun d os => cell_regrown c5 d os
 have g6 := fun d os => cell_regrown c6 d os
 have hmx := mixedK
 cases A with
 | false =>
  have HQ : Hid (Q = false) := by unfold Hid; rw [← hQ]; rfl
  clear hQ hB
  go_enter Tryz.func38, Tryz.ntmps38
  go_upto_region 1 with fail
  refine wp_region_quiet_below (by assumption) (by kernel_rfl) ?_
  repeat (go_big_quiet_step ((go_at_call 46; exact Calls.regrown_of (HM.out _))))
  refine wpQuiet_nil ?_
  intro _ hw'
  obtain ⟨⟨dq, osq⟩, hw''⟩ := hw'
  subst hw''
  have K1 := hideK (below_regrown w dq osq)
  generalize Go.Sort.grow (redrawn w dq) osq = w8 at K1 ⊢
  clear g1 g2 g3 g4 g5 g6 c1 c2 c3 c4 c5 c6
  go_wp2_with fail
  go_ret
  exact ⟨by rw [HQ.out]; rfl, K1.out⟩
 | true =>
  cases B with
  | false =>
   have HQ : Hid (Q = false) := by unfold Hid; rw [← hQ]; rfl
   have hB2 : ¬ (e : Int) = (s.size : Int) := by simpa using hB
   clear hQ
   go_enter Tryz.func38, Tryz.ntmps38
   go_upto_region 1 with fail
   refine wp_region_quiet_below (by assumption) (by kernel_rfl) ?_
   repeat (go_big_quiet_step ((go_at_call 46; exact Calls.regrown_of (HM.out _))))
   refine wpQuiet_nil ?_
   intro _ hw'
   obtain ⟨⟨dq, osq⟩, hw''⟩ := hw'
   subst hw''
   have K1 := hideK (below_regrown w dq osq)
   generalize Go.Sort.grow (redrawn w dq) osq = w8 at K1 ⊢
   clear g1 g2 g3 g4 g5 g6 c1 c2 c3 c4 c5 c6
   go_wp2_with fail
   go_ret
   exact ⟨by rw [HQ.out]; rfl, K1.out⟩
  | true =>
   have HQ : Hid (Q = spanB s y) := by unfold Hid; rw [← hQ]; rfl
   clear hQ
   generalize spanB s y = S at HS HQ
   go_enter Tryz.func38, Tryz.ntmps38
   go_upto_region 1 with fail
   refine wp_region_quiet_below (by assumption) (by kernel_rfl) ?_
   repeat (go_big_quiet_step ((first | (go_at_call 46; exact Calls.regrown_of (HM.out _)) | (go_at_call 56; exact Calls.regrown_of (HS.out _)))))
   refine wpQuiet_nil ?_
   intro _ hw'
   obtain ⟨⟨dq, osq⟩, hw''⟩ := hw'
   subst hw''
   have K1 := hideK (below_regrown w dq osq)
   generalize Go.Sort.grow (redrawn w dq) osq = w8 at K1 ⊢
   clear g1 g2 g3 g4 g5 g6 c1 c2 c3 c4 c5 c6
   go_wp2_with fail
   go_ret
   exact ⟨by rw [HQ.out]; rfl, K1.out⟩
theorem right_any (g : Nat) (v : Value) (e : Nat) (z b : Int) (r s : ByteArray) (y : Int) (w : World) (hg : w.heap[g]? = some (wkB v e z b r s y)) :
  Calls Tryz.prog 38 #[.pointer (some ⟨g, 0, none⟩)] w fun q w' => q = .returned (.bool (atB z b r s y e)) ∧ Below w.heap.size w w' :=
 right_run g v e z b r s y w _ _ _ hg rfl rfl (by
  unfold atB
  congr 2
  by_cases h : e = s.size
  ·rw [decide_eq_true h, h]; simp
  ·rw [decide_eq_false h]; simp; omega)
end Go.Proofs.YtmeohaiidmmgkaaGreatDoor.Kp


/- KeepRight, KeepSync, KeepRecover of the program. -/
namespace Go.Proofs.YtmeohaiidmmgkaaGreatDoor.Kp
open Go.RowKit
open Go.Proofs.YtmeohaiidmmgkaaGreatDoor.Ls (HH hh_keep lV lowL blkL)
def FitC (fit : Rec → Bool) (z b : Int) (r : ByteArray) (w : World) : Prop :=
 ∀ (W : World) (x : MR), Below w.heap.size w W → x.1.2.1.size ≤ 8000 → x.1.2.2.length ≤ 20 → PathIn W x.2 x.1.2.2 → Calls Tryz.prog 40 #[.agg #[.int .i64 x.1.1, .string x.1.2.1, x.2], lV z b r] W fun e w' => e = .returned (.bool (fit x.1)) ∧ Below W.heap.size W w'
theorem FitC.later {fit : Rec → Bool} {z b : Int} {r : ByteArray} {w w' : World} (h : FitC fit z b r w) (hb : Below w.heap.size w w') : FitC fit z b r w' := fun W x hW => h W x (lowL hb hW)
structure Opn (fit : Rec → Bool) (z b : Int) (r s : ByteArray) (y : Int) (w W : World) (g gw : Nat) (v : Value) (m : List MR) : Prop where
 cx : Cx w W [(gw, wkB v (allR fit s).2 z b r s y), (g, kB z b r s y)]
 rs : recs m = (allR fit s).1
 row : OwnR W w.heap.size v m
 ps : Paths W m
theorem Opn.call {fit : Rec → Bool} {z b : Int} {r s : ByteArray} {y : Int} {w W W' : World} {g gw : Nat} {v : Value} {m : List MR} (h : Opn fit z b r s y w W g gw v m) (hb : Below W.heap.size W W') : Opn fit z b r s y w W' g gw v m :=
 ⟨h.cx.call hb, h.rs, h.row.below hb, h.ps.keeps (KeepsS.below hb)⟩
theorem Opn.make {fit : Rec → Bool} {z b : Int} {r s : ByteArray} {y : Int} {w W W' : World} {g base : Nat} {v : Value} {m : List MR} (h : Cx w W [(g, kB z b r s y)]) (hb : Below W.heap.size W W') (hbase : w.heap.size ≤ base) (h2 : recs m = (allR fit s).1) (h3 : OwnR W' base v m) (h4 : Paths W' m) : Opn fit z b r s y w (W'.alloc (wkB v (allR fit s).2 z b r s y)) g W'.heap.size v m :=
 ⟨(h.call hb).new _, h2, (h3.mono hbase).alloc _, h4.keeps (KeepsS.below ((Below.refl _ _).alloc (Nat.le_refl _) _))⟩
set_option maxRecDepth 100000 in
set_option maxHeartbeats 2000000 in
theorem keepRight_impl (fit : Rec → Bool) (z b : Int) (r s : ByteArray) (y : Int) (w : World) (hs : s.size ≤ 1048576) (hh : HH w) (hf : FitC fit z b r w) :
  Calls Tryz.prog 12 #[kV z b r s y] w fun e w' => e = .returned (.bool (keepB fit z b r s y)) ∧ Below w.heap.size w w' := by
 have C0 := hideK ((Cx.nil w).new (kB z b r s y))
 have HO := hideK (fun W (h : Below w.heap.size w W) => openKeep_any fit z b r s y W hs (hh_keep hh h) (hf.later h))
 have HR := hideK (fun g v W h => right_any g v (allR fit s).2 z b r s y W h)
 clear hh hf
 unfold keepB
 unfold kV at HO ⊢
 have HE : Hid (∀ v : Value, wkB v (allR fit s).2 z b r s y = .cells #[v, .int .i64 ((allR fit s).2 : Nat), .int .i64 z, .int .i64 b, .string r, .string s, .int .i64 y] 64) := fun _ => rfl
 unfold OpenOut at HO
 go_enter Tryz.func12, Tryz.ntmps12
 unfold kB at C0
 go_wp2_with fail
 refine (HO.out _ C0.out.low).mono ?_
 rintro e w1 ⟨⟨v, m, rfl, h1, h2, h3⟩, hb⟩
 obtain ⟨a0, cap0, hv⟩ := h2.one
 subst hv
 have O1 := hideK (Opn.make C0.out hb C0.out.low.size h1 h2 h3)
 clear hb h1 h2 h3 HO C0
 unfold wkB at O1
 go_wp2_with fail
 generalize w1.alloc _ = W1 at O1 ⊢
 generalize w1.heap.size = gw at O1 ⊢
 refine (HR.out gw _ W1 (O1.out.cx.get 0 rfl)).mono ?_
 rintro e w2 ⟨rfl, hb⟩
 have O2 := hideK (O1.out.call hb)
 clear hb O1
 go_wp2_with fail
 go_ret
 exact ⟨rfl, O2.out.cx.low⟩
end Go.Proofs.YtmeohaiidmmgkaaGreatDoor.Kp


/- The walk of spec.Unseal: it answers Se.unsealV of its text, and writes nothing that was there. -/
namespace Go.Proofs.YtmeohaiidmmgkaaGreatDoor.Se
open Go.RowKit
open Go.Proofs.YtmeohaiidmmgkaaGreatDoor.Nu (bv arr_string ret_strJ hideJ)
theorem seal_split (s t : ByteArray) (ht : t = s.extract 0 (s.size - 4)) (hts : t.size ≤ 7996) : sealV t = s ↔ fourS (crcOf t) = s.extract (s.size - 4) s.size := by
 have e : t ++ s.extract (s.size - 4) s.size = s := by
  rw [ht, ByteArray.extract_append_extract]; simp [Nat.max_eq_right]
 unfold sealV
 rw [if_pos hts]
 constructor
 ·intro h
  rw [← e] at h
  generalize s.extract (s.size - 4) s.size = r at h e ⊢
  have h' : t ++ fourS (crcOf t) = t ++ r := by
   rw [e] at h
   rw [e]
   exact h
  exact (ByteArray.append_right_inj t).1 h'
 ·intro h
  rw [h]
  exact e
set_option maxRecDepth 100000 in
set_option maxHeartbeats 1000000 in
theorem unseal_spec (s : ByteArray) (w : World) (hs : s.size ≤ maxLen) :
  Calls Tryz.prog 68 #[.string s] w fun e w' => e = .returned (unsealV s) ∧ Below w.heap.size w w' := by
 unfold maxLen at hs
 by_cases h1 : 8000 < s.size
 ·have HV := hideJ (show unsealV s = outV ⟨#[]⟩ 0 2 by unfold unsealV; rw [if_pos h1])
  go_enter Tryz.func68, Tryz.ntmps68
  go_wp2
  refine bodyPost_ret (v := outV ⟨#[]⟩ 0 2) (by simp [results, outV, Tryz.results68, go_sem]) rfl ⟨by rw [HV.out], ?_⟩
  exact (Below.refl _ _).alloc (Nat.le_refl _) _
 ·by_cases h2 : s.size < 4
  ·have HV := hideJ (show unsealV s = outV ⟨#[]⟩ 0 4 by unfold unsealV; rw [if_neg h1, if_pos h2])
   go_enter Tryz.func68, Tryz.ntmps68
   go_wp2
   refine bodyPost_ret (v := outV ⟨#[]⟩ 0 4) (by simp [results, outV, Tryz.results68, go_sem]) rfl ⟨by rw [HV.out], ?_⟩
   exact (Below.refl _ _).alloc (Nat.le_refl _) _
  ·obtain ⟨t, ht⟩ : ∃ t, t = s.extract 0 (s.size - 4) := ⟨_, rfl⟩
   have hts : t.size ≤ 7996 := by rw [ht]; simp; omega
   by_cases hq : sealV t = s
   ·have HV := hideJ (unsealV_yes s t h1 h2 ht hq)
    have hB : ((fourS (crcOf t)).toList == (s.extract (s.size - 4) s.size).toList) = true := by rw [list_eq_iff]; exact decide_eq_true ((seal_split s t ht hts).1 hq)
    have hB2 : ((fourS (crcOf t)).toList == (s.extract ((s.size : Int) - 4).toNat s.size).toList) = true := by rw [show ((s.size : Int) - 4).toNat = s.size - 4 from by omega]; exact hB
    have HT := hideJ ht
    clear ht hq
    have g1 : (0 : Int) ≤ (s.size : Int) - 4 := by omega
    have g2 : (s.size : Int) - 4 ≤ (s.size : Int) := by omega
    have hwr : IntKind.i64.wrap ((s.size : Int) - 4) = (s.size : Int) - 4 := by rw [IntKind.wrap_i64]; omega
    go_enter Tryz.func68, Tryz.ntmps68
    go_wp2
    rw [← HT.out]
    go_region_with (first | (go_at_call 88; refine (Cr.crc_spec 0 t _ (by omega) (by omega)).mono ?_; rintro e w' ⟨rfl, hw⟩; subst w') | (go_at_call 87; refine (four_any (crcOf t) _ (crcOf_lt t)).mono ?_; rintro e wa ⟨rfl, hb1⟩))
    obtain ⟨hc1, hf1⟩ := bcell hb1
    have hz1 : w.heap.size + 1 ≤ wa.heap.size := by have := hb1.size; simpa using this
    go_wp2
    refine bodyPost_ret (v := outV t 0 0) (by simp [results, outV, Tryz.results68, go_sem, hc1]) rfl ⟨by rw [HV.out], ?_⟩
    exact ((below2d hb1).setCell (Nat.le_refl _) _ |>.setCell (Nat.le_refl _) _).setCell (Nat.le_refl _) _
   ·have HV := hideJ (unsealV_no s t h1 h2 ht hq)
    have hB : ((fourS (crcOf t)).toList == (s.extract (s.size - 4) s.size).toList) = false := by rw [list_eq_iff]; exact decide_eq_false (fun h => hq ((seal_split s t ht hts).2 h))
    have hB2 : ((fourS (crcOf t)).toList == (s.extract ((s.size : Int) - 4).toNat s.size).toList) = false := by rw [show ((s.size : Int) - 4).toNat = s.size - 4 from by omega]; exact hB
    have HT := hideJ ht
    clear ht hq
    have g1 : (0 : Int) ≤ (s.size : Int) - 4 := by omega
    have g2 : (s.size : Int) - 4 ≤ (s.size : Int) := by omega
    have hwr : IntKind.i64.wrap ((s.size : Int) - 4) = (s.size : Int) - 4 := by rw [IntKind.wrap_i64]; omega
    go_enter Tryz.func68, Tryz.ntmps68
    go_wp2
    rw [← HT.out]
    go_region_with (first | (go_at_call 88; refine (Cr.crc_spec 0 t _ (by omega) (by omega)).mono ?_; rintro e w' ⟨rfl, hw⟩; subst w') | (go_at_call 87; refine (four_any (crcOf t) _ (crcOf_lt t)).mono ?_; rintro e wa ⟨rfl, hb1⟩))
    obtain ⟨hc1, hf1⟩ := bcell hb1
    have hz1 : w.heap.size + 1 ≤ wa.heap.size := by have := hb1.size; simpa using this
    go_wp2
    refine bodyPost_ret (v := outV ⟨#[]⟩ 0 5) (by simp [results, outV, Tryz.results68, go_sem, hc1]) rfl ⟨by rw [HV.out], ?_⟩
    exact ((below2d hb1).setCell (Nat.le_refl _) _ |>.setCell (Nat.le_refl _) _).setCell (Nat.le_refl _) _
end Go.Proofs.YtmeohaiidmmgkaaGreatDoor.Se

