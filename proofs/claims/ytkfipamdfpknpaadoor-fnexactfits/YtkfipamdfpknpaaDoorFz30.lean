/- Texts put together: LsFits, LsFitsS. -/
import Derived.Test.YtkfipamdfpknpaaDoorFz16
import Derived.Test.YtkfipamdfpknpaaDoorFz29
import Derived.Lib.QuietBelow
import Derived.BigQuiet
import Derived.Deep.QuietTactic
/- Fits: what both sides answer. -/
namespace Go.Proofs.YtkfipamdfpknpaaDoor.Ls
open Go.RowKit
open Go.Proofs.YtkfipamdfpknpaaDoor.Bk (cnt count_any)
open Go.Proofs.YtkfipamdfpknpaaDoor.Bi (is_yes is_no)
open Go.Proofs.YtkfipamdfpknpaaDoor.Tr (inclB incl_impl incl_spec inclB_leaf)
open Go.Proofs.YtkfipamdfpknpaaDoor.Sh (Vars leafR leafV leafR_no leafR_yes leaf_impl l03Leaf_any)
open Go.Proofs.YtkfipamdfpknpaaDoor.St (Strs)
def fitsB (z b : Int) (r : ByteArray) (i : Int) (t : ByteArray) (p : List ByteArray) : Bool := inclB (leafR t) i ((countN z b r : Nat) : Int) p r
theorem mixedF : Tryd.prog.follows .mixedOrders = true := by kernel_rfl
theorem vars_keepF {w w' : World} (h : Vars w) (hb : Below w.heap.size w w') : Vars w' := h.below hb h.two
theorem inclB_range {leaf : ByteArray} {i n : Int} {p : List ByteArray} {root : ByteArray} (h : ¬ (0 ≤ i ∧ i < n)) : inclB leaf i n p root = false := by
  unfold inclB
  rw [← Bool.not_eq_true]
  simp only [Bool.and_eq_true, decide_eq_true_eq]
  exact fun q => h ⟨q.1.1.2, q.1.2⟩
theorem inclB_long {leaf : ByteArray} {i n : Int} {p : List ByteArray} {root : ByteArray} (h : 63 < p.length) : inclB leaf i n p root = false := by
  unfold inclB
  rw [← Bool.not_eq_true]
  simp only [Bool.and_eq_true, decide_eq_true_eq]
  exact fun q => by have := q.1.1.1.2.1; omega
theorem fits_piece {z b : Int} {r : ByteArray} {i : Int} {t : ByteArray} {p : List ByteArray} (h : 100 < t.size) : fitsB z b r i t p = false := by
  unfold fitsB
  rw [leafR_no t h]
  exact inclB_leaf _ _ _ _ _ (by decide)
theorem fits_path {z b : Int} {r : ByteArray} {i : Int} {t : ByteArray} {p : List ByteArray} (h : 63 < p.length) : fitsB z b r i t p = false := inclB_long h
theorem fits_right {z b : Int} {r : ByteArray} {i : Int} {t : ByteArray} {p : List ByteArray} (h : rightB z b r = false) : fitsB z b r i t p = false := by
  unfold fitsB
  rw [countN_no h]
  exact inclB_range (by omega)
set_option maxRecDepth 100000 in
set_option maxHeartbeats 2000000 in
theorem fits_impl (z b : Int) (r : ByteArray) (i : Int) (t : ByteArray) (p : List ByteArray) (a : Option Addr) (cap m : Nat) (w : World) (ht : t.size ≤ maxLen) (hm : m = p.length) (hp : m ≤ 1048576) (hcap : m ≤ cap) (hs : Strs w w.heap.size a p) (hV : Vars w) :
    Calls Tryd.prog 14 #[lV z b r, .int .i64 i, .string t, .slice a m cap] w fun e w' => e = .returned (.bool (fitsB z b r i t p)) ∧ Below w.heap.size w w' := by
  have HA : Hid (Below w.heap.size w (w.alloc (.cells #[.int .i64 z, .int .i64 b, .string r] 23))) := (Below.refl _ _).alloc (Nat.le_refl _) _
  have HX : Hid ((w.alloc (.cells #[.int .i64 z, .int .i64 b, .string r] 23)).heap[w.heap.size]? = some (.cells #[.int .i64 z, .int .i64 b, .string r] 23 (0, 0))) := heap_alloc_new w _
  have HC := hideL (fun W => count_impl z b r W)
  have HL := hideL (fun W h => leaf_impl t W ht h)
  have HCL := countN_le z b r
  have HI : Hid (∀ W, Below w.heap.size w W → Calls Tryd.prog 27 #[.string (leafR t), .int .i64 i, .int .i64 (countN z b r : Nat), .slice a m cap, .string r] W fun e w' => e = .returned (.bool (fitsB z b r i t p)) ∧ Below W.heap.size W w') := fun W h => by
    have := incl_impl (leafR t) r i (countN z b r : Nat) p a cap W.heap.size W (by omega) (by omega) (by omega) ((hs.below h).mono h.size) (Nat.le_refl _) (vars_keepF hV h)
    rw [← hm] at this
    exact this
  have HV : Hid (∀ W, Below w.heap.size w W → Vars W) := fun W h => vars_keepF hV h
  have hmx := mixedF
  clear hs hV hm
  unfold lV at HC ⊢
  generalize fitsB z b r i t p = Q at HI ⊢
  generalize leafR t = lf at HI HL
  generalize countN z b r = cn at HI HC
  go_enter Tryd.func14, Tryd.ntmps14
  go_wp2_with fail
  generalize hww : w.alloc (.cells #[.int .i64 z, .int .i64 b, .string r] 23) = wa at HA HX ⊢
  clear hww
  obtain ⟨c0, c1, c2⟩ := cells3 HX.out
  generalize w.heap.size = gx at c0 c1 c2 ⊢
  have g0 := fun d os => cell_regrown c0 d os
  have g1 := fun d os => cell_regrown c1 d os
  have g2 := fun d os => cell_regrown c2 d os
  refine wp_region_quiet_below (by assumption) (by kernel_rfl) ?_
  repeat (quiet_step (first | (go_at_call 28; exact Calls.regrown_of (HL.out _ (HV.out _ (lowL HA.out (below_regrown _ _ _))))) | (go_at_call 29; exact Calls.regrown_of (HC.out _)) | (go_at_call 27; exact Calls.regrown_of (HI.out _ (lowL HA.out (below_regrown _ _ _))))))
  refine wpQuiet_nil ?_
  intro _ hw'
  obtain ⟨⟨dq, osq⟩, hw''⟩ := hw'
  subst hw''
  have KQ := hideL (below_regrown wa dq osq)
  generalize Go.Sort.grow (redrawn wa dq) osq = w8 at KQ ⊢
  clear g0 g1 g2 c0 c1 c2
  go_wp2_with fail
  go_ret
  exact ⟨rfl, lowL HA.out KQ.out⟩
end Go.Proofs.YtkfipamdfpknpaaDoor.Ls


/- The walks of the specification's Fits. -/
namespace Go.Proofs.YtkfipamdfpknpaaDoor.Ls
open Go.RowKit
open Go.Proofs.YtkfipamdfpknpaaDoor.Bk (cnt count_any)
open Go.Proofs.YtkfipamdfpknpaaDoor.Bi (is_yes is_no)
open Go.Proofs.YtkfipamdfpknpaaDoor.Tr (inclB incl_spec)
open Go.Proofs.YtkfipamdfpknpaaDoor.Sh (leafR leafV leafR_yes l03Leaf_any)
open Go.Proofs.YtkfipamdfpknpaaDoor.St (Strs)
theorem calls_below {P : Program} {f : FuncId} {args : Array Value} {W : World} {v : Value} (h : Calls P f args W fun e w' => e = .returned v ∧ w' = W) : Calls P f args W fun e w' => e = .returned v ∧ Below W.heap.size W w' :=
  h.mono fun e w' q => ⟨q.1, by rw [q.2]; exact Below.refl _ _⟩
theorem calls_drew {P : Program} {f : FuncId} {args : Array Value} {W : World} {v : Value} (h : Calls P f args W fun e w' => e = .returned v ∧ w' = W) : Calls P f args W fun e w' => e = .returned v ∧ ∃ n, w' = W.drewN n :=
  h.mono fun _ _ q => ⟨q.1, 0, q.2⟩
set_option maxRecDepth 100000 in
set_option maxHeartbeats 4000000 in
theorem l07Fits_spec (q k : Nat) (r : ByteArray) (i : Int) (t : ByteArray) (p : List ByteArray) (a : Option Addr) (cap m : Nat) (w : World) (hr : rightB q k r = true) (ht : t.size ≤ 8000) (hm : m = p.length) (hp : m ≤ 1048576) (hs : Strs w w.heap.size a p) :
    Calls Tryd.prog 26 #[lV q k r, .int .i64 i, .string t, .slice a m cap] w fun e w' => e = .returned (.bool (fitsB q k r i t p)) ∧ Below w.heap.size w w' := by
  have h := rightB_yes hr
  have HA : Hid (Below w.heap.size w (w.alloc (.cells #[.int .i64 q, .int .i64 k, .string r] 23))) := (Below.refl _ _).alloc (Nat.le_refl _) _
  have HX : Hid ((w.alloc (.cells #[.int .i64 q, .int .i64 k, .string r] 23)).heap[w.heap.size]? = some (.cells #[.int .i64 q, .int .i64 k, .string r] 23 (0, 0))) := heap_alloc_new w _
  have HC := hideL (fun W => calls_below (count_any q k W (by omega) (by omega) (by omega)))
  have HCq := hideL (fun W => calls_drew (count_any q k W (by omega) (by omega) (by omega)))
  obtain ⟨hcn, hcl⟩ := countN_yes hr
  have HL := hideL (fun W => l03Leaf_any t W ht)
  have HFE : Hid (fitsB q k r i t p = inclB (leafR t) i ((cnt q k : Nat) : Int) p r) := by unfold Hid fitsB; rw [hcn]
  have HI : Hid (∀ W, Below w.heap.size w W → Calls Tryd.prog 42 #[.string (leafV t), .int .i64 i, .int .i64 (cnt q k : Nat), .slice a m cap, .string r] W fun e w' => e = .returned (.bool (inclB (leafV t) i ((cnt q k : Nat) : Int) p r)) ∧ Below W.heap.size W w') := fun W h => by
    have := incl_spec (leafV t) r i (cnt q k : Nat) p a cap W.heap.size W (by omega) (by omega) ((hs.below h).mono h.size) (Nat.le_refl _)
    rw [← hm] at this
    exact this
  have hmx := mixedF
  clear hs hm hr h hcn
  generalize cnt q k = cn at HC HCq HI HFE hcl
  have hsub : IntKind.i64.wrap ((cn : Int) - 1) = (cn : Int) - 1 := by rw [IntKind.wrap_i64]; omega
  by_cases hi : 0 ≤ i ∧ i ≤ (cn : Int) - 1
  · have HIS := hideL (fun W => calls_below (is_yes i 0 ((cn : Int) - 1) W hi.1 hi.2))
    have HISq := hideL (fun W => calls_drew (is_yes i 0 ((cn : Int) - 1) W hi.1 hi.2))
    by_cases h1 : t.size ≤ 100
    · have HQ : Hid (fitsB q k r i t p = inclB (leafV t) i ((cn : Nat) : Int) p r) := by rw [HFE.out, leafR_yes t (by omega)]; rfl
      have h1' : decide ((t.size : Int) ≤ 100) = true := by simp; omega
      have h1i : (t.size : Int) ≤ 100 := by omega
      rw [HQ.out]
      clear HQ HFE hi
      generalize inclB (leafV t) i ((cn : Nat) : Int) p r = Q at HI ⊢
      generalize leafV t = lf at HI HL
      unfold lV
      go_enter Tryd.func26, Tryd.ntmps26
      go_wp2_with fail
      generalize hww : w.alloc (.cells #[.int .i64 q, .int .i64 k, .string r] 23) = wa at HA HX ⊢
      clear hww
      obtain ⟨c0, c1, c2⟩ := cells3 HX.out
      generalize w.heap.size = gx at c0 c1 c2 ⊢
      have g0 := fun d os => cell_regrown c0 d os
      have g1 := fun d os => cell_regrown c1 d os
      have g2 := fun d os => cell_regrown c2 d os
      refine wp_region_quiet_below (by assumption) (by kernel_rfl) ?_
      repeat (quiet_step (first | (go_at_call 41; exact Calls.regrown_of (HC.out _)) | (go_at_call 30; exact Calls.regrown_of (HIS.out _)) | (go_at_call 43; exact Calls.regrown_of (HL.out _)) | (go_at_call 42; exact Calls.regrown_of (HI.out _ (lowL HA.out (below_regrown _ _ _))))))
      refine wpQuiet_nil ?_
      intro _ hw'
      obtain ⟨⟨dq, osq⟩, hw''⟩ := hw'
      subst hw''
      have KQ := hideL (below_regrown wa dq osq)
      generalize Go.Sort.grow (redrawn wa dq) osq = w8 at KQ ⊢
      clear g0 g1 g2 c0 c1 c2
      go_wp2_with fail
      go_ret
      exact ⟨rfl, lowL HA.out KQ.out⟩
    · have HQ := hideL (fits_piece (z := q) (b := k) (r := r) (i := i) (p := p) (t := t) (by omega))
      have h1d : decide ((t.size : Int) ≤ 100) = false := by simp; omega
      have h1n : decide (t.size ≤ 100) = false := by simp; omega
      have h1i : ¬ (t.size : Int) ≤ 100 := by omega
      rw [HQ.out]
      clear HQ HFE hi HI HL
      unfold lV
      go_enter Tryd.func26, Tryd.ntmps26
      go_wp2_with fail
      generalize hww : w.alloc (.cells #[.int .i64 q, .int .i64 k, .string r] 23) = wa at HA HX ⊢
      clear hww
      obtain ⟨c0, c1, c2⟩ := cells3 HX.out
      generalize w.heap.size = gx at c0 c1 c2 ⊢
      go_quiet (first | (go_at_call 41; refine Calls.quiet_of (HCq.out _)) | (go_at_call 30; refine Calls.quiet_of (HISq.out _)))
      all_goals (try go_wp2_with fail)
      all_goals go_ret
      all_goals exact ⟨rfl, lowL HA.out (below_drewN (Below.refl _ _) _)⟩
  · have HQ : Hid (fitsB q k r i t p = false) := by rw [HFE.out]; exact inclB_range (by omega)
    have HISq : Hid (∀ W, _) := fun W => calls_drew (is_no i 0 ((cn : Int) - 1) W (by omega))
    rw [HQ.out]
    clear HQ HFE hi HI HL
    unfold lV
    go_enter Tryd.func26, Tryd.ntmps26
    go_wp2_with fail
    generalize hww : w.alloc (.cells #[.int .i64 q, .int .i64 k, .string r] 23) = wa at HA HX ⊢
    clear hww
    obtain ⟨c0, c1, c2⟩ := cells3 HX.out
    generalize w.heap.size = gx at c0 c1 c2 ⊢
    go_quiet (first | (go_at_call 41; refine Calls.quiet_of (HCq.out _)) | (go_at_call 30; refine Calls.quiet_of (HISq.out _)))
    all_goals (try go_wp2_with fail)
    all_goals go_ret
    all_goals exact ⟨rfl, lowL HA.out (below_drewN (Below.refl _ _) _)⟩
set_option maxRecDepth 100000 in
set_option maxHeartbeats 2000000 in
theorem fits_spec (z b : Int) (r : ByteArray) (i : Int) (t : ByteArray) (p : List ByteArray) (a : Option Addr) (cap m : Nat) (w : World) (hm : m = p.length) (hp : m ≤ 1048576) (hs : Strs w w.heap.size a p) :
    Calls Tryd.prog 11 #[lV z b r, .int .i64 i, .string t, .slice a m cap] w fun e w' => e = .returned (.bool (fitsB z b r i t p)) ∧ Below w.heap.size w w' := by
  have HA : Hid (Below w.heap.size w (w.alloc (.cells #[.int .i64 z, .int .i64 b, .string r] 23))) := (Below.refl _ _).alloc (Nat.le_refl _) _
  have HX : Hid ((w.alloc (.cells #[.int .i64 z, .int .i64 b, .string r] 23)).heap[w.heap.size]? = some (.cells #[.int .i64 z, .int .i64 b, .string r] 23 (0, 0))) := heap_alloc_new w _
  by_cases h1 : t.size ≤ 8000
  · have h1i : (t.size : Int) ≤ 8000 := by omega
    by_cases h2 : m ≤ 400
    · have h2i : (m : Int) ≤ 400 := by omega
      have HR := hideL (fun W => right_spec z b r W)
      cases hr : rightB z b r with
      | false =>
        have HQ := hideL (fits_right (z := z) (b := b) (r := r) (i := i) (p := p) (t := t) hr)
        rw [hr] at HR
        rw [HQ.out]
        clear HQ hr hs
        unfold lV at HR ⊢
        go_enter Tryd.func11, Tryd.ntmps11
        go_wp2_with fail
        refine (HR.out _).mono ?_
        rintro e w1 ⟨rfl, hb⟩
        have B1 := hideL (lowL HA.out hb)
        clear hb
        go_wp2_with fail
        go_ret
        exact ⟨rfl, B1.out⟩
      | true =>
        have h := rightB_yes hr
        obtain ⟨q, hq⟩ := Int.eq_ofNat_of_zero_le h.1
        obtain ⟨k, hk⟩ := Int.eq_ofNat_of_zero_le (show 0 ≤ b by omega)
        subst hq
        subst hk
        have HL : Hid (∀ W, Below w.heap.size w W → _) := fun W h => l07Fits_spec q k r i t p a cap m W hr h1 hm hp ((hs.below h).mono h.size)
        rw [hr] at HR
        clear hr hs h hm
        generalize fitsB q k r i t p = Q at HL ⊢
        unfold lV at HR HL ⊢
        go_enter Tryd.func11, Tryd.ntmps11
        go_wp2_with fail
        generalize hww : w.alloc (.cells #[.int .i64 q, .int .i64 k, .string r] 23) = wa at HA HX ⊢
        clear hww
        refine (HR.out _).mono ?_
        rintro e w1 ⟨rfl, hb⟩
        have X1 := hideL (blkL HX.out hb)
        have B1 := hideL (lowL HA.out hb)
        clear hb HX HA
        obtain ⟨c0, c1, c2⟩ := cells3 X1.out
        go_wp2_with fail
        refine (HL.out _ B1.out).mono ?_
        rintro e w2 ⟨rfl, hb⟩
        have B2 := hideL (lowL B1.out hb)
        clear hb c0 c1 c2
        go_wp2_with fail
        go_ret
        exact ⟨rfl, B2.out⟩
    · have HQ := hideL (fits_path (z := z) (b := b) (r := r) (i := i) (p := p) (t := t) (by omega))
      have h2i : ¬ (m : Int) ≤ 400 := by omega
      have h2d : decide ((m : Int) ≤ 400) = false := by simp; omega
      rw [HQ.out]
      clear HQ hs
      unfold lV
      go_enter Tryd.func11, Tryd.ntmps11
      go_wp2_with fail
      go_ret
      exact ⟨rfl, HA.out⟩
  · have HQ := hideL (fits_piece (z := z) (b := b) (r := r) (i := i) (p := p) (t := t) (by omega))
    have h1i : ¬ (t.size : Int) ≤ 8000 := by omega
    have h1d : decide ((t.size : Int) ≤ 8000) = false := by simp; omega
    rw [HQ.out]
    clear HQ hs
    unfold lV
    go_enter Tryd.func11, Tryd.ntmps11
    go_wp2_with fail
    go_ret
    exact ⟨rfl, HA.out⟩
end Go.Proofs.YtkfipamdfpknpaaDoor.Ls

