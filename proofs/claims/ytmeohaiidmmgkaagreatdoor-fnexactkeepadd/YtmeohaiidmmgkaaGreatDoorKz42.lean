/- Texts put together: LsFitsS, KpFit, KpText, KqText. -/
import Derived.Test.YtmeohaiidmmgkaaGreatDoorKz38
import Derived.BigQuiet
import Derived.Deep.QuietTactic
import Derived.Test.YtmeohaiidmmgkaaGreatDoorKz40
import Derived.Test.YtmeohaiidmmgkaaGreatDoorKz41
import Derived.Test.YtmeohaiidmmgkaaGreatDoorKz32
import Derived.Test.YtmeohaiidmmgkaaGreatDoorKz31
import Derived.Test.YtmeohaiidmmgkaaGreatDoorKz27
import Derived.Deep.RegionHeld3
import Derived.Lib.QuietBelow
import Derived.Lib.SmallJoins
/- The walks of the specification's Fits. -/
namespace Go.Proofs.YtmeohaiidmmgkaaGreatDoor.Ls
open Go.RowKit
open Go.Proofs.YtmeohaiidmmgkaaGreatDoor.Bk (cnt count_any)
open Go.Proofs.YtmeohaiidmmgkaaGreatDoor.Bi (is_yes is_no)
open Go.Proofs.YtmeohaiidmmgkaaGreatDoor.Tr (inclB incl_spec)
open Go.Proofs.YtmeohaiidmmgkaaGreatDoor.Sh (leafR leafV leafR_yes l03Leaf_any)
open Go.Proofs.YtmeohaiidmmgkaaGreatDoor.St (Strs)
theorem calls_below {P : Program} {f : FuncId} {args : Array Value} {W : World} {v : Value} (h : Calls P f args W fun e w' => e = .returned v ∧ w' = W) : Calls P f args W fun e w' => e = .returned v ∧ Below W.heap.size W w' :=
 h.mono fun e w' q => ⟨q.1, by rw [q.2]; exact Below.refl _ _⟩
theorem calls_drew {P : Program} {f : FuncId} {args : Array Value} {W : World} {v : Value} (h : Calls P f args W fun e w' => e = .returned v ∧ w' = W) : Calls P f args W fun e w' => e = .returned v ∧ ∃ n, w' = W.drewN n :=
 h.mono fun _ _ q => ⟨q.1, 0, q.2⟩
set_option maxRecDepth 100000 in
set_option maxHeartbeats 4000000 in
theorem l07Fits_spec (q k : Nat) (r : ByteArray) (i : Int) (t : ByteArray) (p : List ByteArray) (a : Option Addr) (cap m : Nat) (w : World) (hr : rightB q k r = true) (ht : t.size ≤ 8000) (hm : m = p.length) (hp : m ≤ 1048576) (hs : Strs w w.heap.size a p) :
  Calls Tryz.prog 53 #[lV q k r, .int .i64 i, .string t, .slice a m cap] w fun e w' => e = .returned (.bool (fitsB q k r i t p)) ∧ Below w.heap.size w w' := by
 have h := rightB_yes hr
 have HA : Hid (Below w.heap.size w (w.alloc (.cells #[.int .i64 q, .int .i64 k, .string r] 28))) := (Below.refl _ _).alloc (Nat.le_refl _) _
 have HX : Hid ((w.alloc (.cells #[.int .i64 q, .int .i64 k, .string r] 28)).heap[w.heap.size]? = some (.cells #[.int .i64 q, .int .i64 k, .string r] 28 (0, 0))) := heap_alloc_new w _
 have HC := hideL (fun W => calls_below (count_any q k W (by omega) (by omega) (by omega)))
 have HCq := hideL (fun W => calls_drew (count_any q k W (by omega) (by omega) (by omega)))
 obtain ⟨hcn, hcl⟩ := countN_yes hr
 have HL := hideL (fun W => l03Leaf_any t W ht)
 have HFE : Hid (fitsB q k r i t p = inclB (leafR t) i ((cnt q k : Nat) : Int) p r) := by unfold Hid fitsB; rw [hcn]
 have HI : Hid (∀ W, Below w.heap.size w W → Calls Tryz.prog 70 #[.string (leafV t), .int .i64 i, .int .i64 (cnt q k : Nat), .slice a m cap, .string r] W fun e w' => e = .returned (.bool (inclB (leafV t) i ((cnt q k : Nat) : Int) p r)) ∧ Below W.heap.size W w') := fun W h => by
  have := incl_spec (leafV t) r i (cnt q k : Nat) p a cap W.heap.size W (by omega) (by omega) ((hs.below h).mono h.size) (Nat.le_refl _)
  rw [← hm] at this
  exact this
 have hmx := mixedF
 clear hs hm hr h hcn
 generalize cnt q k = cn at HC HCq HI HFE hcl
 have hsub : IntKind.i64.wrap ((cn : Int) - 1) = (cn : Int) - 1 := by rw [IntKind.wrap_i64]; omega
 by_cases hi : 0 ≤ i ∧ i ≤ (cn : Int) - 1
 ·have HIS := hideL (fun W => calls_below (is_yes i 0 ((cn : Int) - 1) W hi.1 hi.2))
  have HISq := hideL (fun W => calls_drew (is_yes i 0 ((cn : Int) - 1) W hi.1 hi.2))
  by_cases h1 : t.size ≤ 100
  ·have HQ : Hid (fitsB q k r i t p = inclB (leafV t) i ((cn : Nat) : Int) p r) := by rw [HFE.out, leafR_yes t (by omega)]; rfl
   have h1' : decide ((t.size : Int) ≤ 100) = true := by simp; omega
   have h1i : (t.size : Int) ≤ 100 := by omega
   rw [HQ.out]
   clear HQ HFE hi
   generalize inclB (leafV t) i ((cn : Nat) : Int) p r = Q at HI ⊢
   generalize leafV t = lf at HI HL
   unfold lV
   go_enter Tryz.func53, Tryz.ntmps53
   go_wp2_with fail
   generalize hww : w.alloc (.cells #[.int .i64 q, .int .i64 k, .string r] 28) = wa at HA HX ⊢
   clear hww
   obtain ⟨c0, c1, c2⟩ := cells3 HX.out
   generalize w.heap.size = gx at c0 c1 c2 ⊢
   have g0 := fun d os => cell_regrown c0 d os
   have g1 := fun d os => cell_regrown c1 d os
   have g2 := fun d os => cell_regrown c2 d os
   refine wp_region_quiet_below (by assumption) (by kernel_rfl) ?_
   repeat (quiet_step (first | (go_at_call 51; exact Calls.regrown_of (HC.out _)) | (go_at_call 34; exact Calls.regrown_of (HIS.out _)) | (go_at_call 71; exact Calls.regrown_of (HL.out _)) | (go_at_call 70; exact Calls.regrown_of (HI.out _ (lowL HA.out (below_regrown _ _ _))))))
   refine wpQuiet_nil ?_
   intro _ hw'
   obtain ⟨⟨dq, osq⟩, hw''⟩ := hw'
   subst hw''
   have KQ := hideL (below_regrown wa dq osq)
   generalize Go.Sort.grow (redrawn wa dq) osq = w8 at KQ ⊢
   clear g0 g1 g2 c0 c1 c2
   go_wp2_with fail
   go_ret
   exact ⟨rfl, lowL HA.out KQ.out⟩
  ·have HQ := hideL (fits_piece (z := q) (b := k) (r := r) (i := i) (p := p) (t := t) (by omega))
   have h1d : decide ((t.size : Int) ≤ 100) = false := by simp; omega
   have h1n : decide (t.size ≤ 100) = false := by simp; omega
   have h1i : ¬ (t.size : Int) ≤ 100 := by omega
   rw [HQ.out]
   clear HQ HFE hi HI HL
   unfold lV
   go_enter Tryz.func53, Tryz.ntmps53
   go_wp2_with fail
   generalize hww : w.alloc (.cells #[.int .i64 q, .int .i64 k, .string r] 28) = wa at HA HX ⊢
   clear hww
   obtain ⟨c0, c1, c2⟩ := cells3 HX.out
   generalize w.heap.size = gx at c0 c1 c2 ⊢
   go_quiet (first | (go_at_call 51; refine Calls.quiet_of (HCq.out _)) | (go_at_call 34; refine Calls.quiet_of (HISq.out _)))
   all_goals (try go_wp2_with fail)
   all_goals go_ret
   all_goals exact ⟨rfl, lowL HA.out (below_drewN (Below.refl _ _) _)⟩
 ·have HQ : Hid (fitsB q k r i t p = false) := by rw [HFE.out]; exact inclB_range (by omega)
  have HISq : Hid (∀ W, _) := fun W => calls_drew (is_no i 0 ((cn : Int) - 1) W (by omega))
  rw [HQ.out]
  clear HQ HFE hi HI HL
  unfold lV
  go_enter Tryz.func53, Tryz.ntmps53
  go_wp2_with fail
  generalize hww : w.alloc (.cells #[.int .i64 q, .int .i64 k, .string r] 28) = wa at HA HX ⊢
  clear hww
  obtain ⟨c0, c1, c2⟩ := cells3 HX.out
  generalize w.heap.size = gx at c0 c1 c2 ⊢
  go_quiet (first | (go_at_call 51; refine Calls.quiet_of (HCq.out _)) | (go_at_call 34; refine Calls.quiet_of (HISq.out _)))
  all_goals (try go_wp2_with fail)
  all_goals go_ret
  all_goals exact ⟨rfl, lowL HA.out (below_drewN (Below.refl _ _) _)⟩
end Go.Proofs.YtmeohaiidmmgkaaGreatDoor.Ls


/- What fits: the contracts of both sides at every record. -/
namespace Go.Proofs.YtmeohaiidmmgkaaGreatDoor.Kp
open Go.RowKit
open Go.Proofs.YtmeohaiidmmgkaaGreatDoor.Ls (rightB rightB_yes lV vars_keepF l07Fits_spec fitsB fits_piece countN_le)
open Go.Proofs.YtmeohaiidmmgkaaGreatDoor.Tr (inclB wide_yes)
open Go.Proofs.YtmeohaiidmmgkaaGreatDoor.Sh (Vars)
theorem fitC_of (z b : Int) (r : ByteArray) (w : World) (hV : Vars w) : FitC (fitR z b r) z b r w := fun W x hW h1 h2 h3 =>
 fits_rec z b r x W (by unfold maxLen; omega) (by omega) h3 (vars_keepF hV hW)
theorem fitS_of (z b : Int) (r : ByteArray) (w : World) (hr : rightB z b r = true) : FitS (fitR z b r) z b r w := fun W x hW h1 h2 h3 => by
 have h4 := rightB_yes hr
 obtain ⟨p, rfl⟩ := Int.eq_ofNat_of_zero_le h4.1
 obtain ⟨k, rfl⟩ := Int.eq_ofNat_of_zero_le (show 0 ≤ b by omega)
 obtain ⟨a, cap, hv, hc, hst⟩ := h3
 rw [hv, fit_short h2]
 exact l07Fits_spec p k r x.1.1 x.1.2.1 x.1.2.2 a cap x.1.2.2.length W hr h1 rfl (by omega) hst
theorem fit_facts {z b : Int} {r : ByteArray} {x : Rec} (h : fitR z b r x = true) : 0 ≤ x.1 ∧ x.1 < 64 ∧ x.2.1.size ≤ 100 ∧ x.2.2.length ≤ 20 ∧ ∀ q ∈ x.2.2, q.size = 32 := by
 have h20 : x.2.2.length ≤ 20 := by
  by_cases h2 : x.2.2.length ≤ 20
  ·exact h2
  ·rw [fit_long h2] at h; cases h
 have ht : x.2.1.size ≤ 100 := by
  by_cases h2 : x.2.1.size ≤ 100
  ·exact h2
  ·rw [fit_short h20, fits_piece (by omega)] at h; cases h
 rw [fit_short h20] at h
 have hc := countN_le z b r
 unfold fitsB inclB at h
 simp only [Bool.and_eq_true, decide_eq_true_eq] at h
 exact ⟨h.1.1.2, by omega, ht, h20, fun q hq => by
  obtain ⟨j, hj, rfl⟩ := List.getElem_of_mem hq
  exact (wide_yes x.2.2).1 h.1.1.1.2.2 j hj⟩
end Go.Proofs.YtmeohaiidmmgkaaGreatDoor.Kp


/- A record as it stands in a log: both sides. -/
namespace Go.Proofs.YtmeohaiidmmgkaaGreatDoor.Kp
open Go.RowKit
open Go.Proofs.YtmeohaiidmmgkaaGreatDoor.Ls (cells3 lowL blkL lm_alloc lm_drew)
open Go.Proofs.YtmeohaiidmmgkaaGreatDoor.St (OwnS Strs one_newS one_cellS app_one)
open Go.Proofs.YtmeohaiidmmgkaaGreatDoor.Nu (putS putT)
open Go.Proofs.YtmeohaiidmmgkaaGreatDoor.Pk (cat join_any)
def partsR (x : Rec) (j : Nat) : List ByteArray := [putS x.1, putT x.2.1, putS (x.2.2.length : Nat)] ++ (x.2.2.take j).map putT
def innerT (x : Rec) : ByteArray := ⟨(cat (partsR x x.2.2.length)).toArray⟩
def recT (x : Rec) : ByteArray := putT (Se.sealV (innerT x))
theorem putT_size (t : ByteArray) : (putT t).size ≤ 8010 := by
 unfold putT
 split
 ·rw [ByteArray.size_append]
  have := Nu.putS_size (t.size : Int)
  omega
 ·exact Nat.zero_le _
theorem cat_le : ∀ l : List ByteArray, (∀ q ∈ l, q.size ≤ 8010) → (cat l).length ≤ 8010 * l.length
 | [], _ => Nat.le_refl _
 | a :: l, h => by
  have h1 := cat_le l (fun q hq => h q (List.mem_cons_of_mem _ hq))
  have h2 := h a List.mem_cons_self
  unfold cat at h1 ⊢
  rw [List.flatMap_cons, List.length_append, List.length_cons]
  have h3 : a.data.toList.length = a.size := rfl
  omega
theorem partsR_len (x : Rec) (j : Nat) (h : j ≤ x.2.2.length) : (partsR x j).length = 3 + j := by
 unfold partsR
 rw [List.length_append, List.length_map, List.length_take]
 show 3 + _ = _
 omega
theorem partsR_cat (x : Rec) (j : Nat) (h : j ≤ x.2.2.length) : (cat (partsR x j)).length ≤ 8010 * (3 + j) := by
 rw [← partsR_len x j h]
 refine cat_le _ (fun q hq => ?_)
 unfold partsR at hq
 rcases List.mem_append.1 hq with hq | hq
 ·simp only [List.mem_cons, List.not_mem_nil, or_false] at hq
  rcases hq with rfl | rfl | rfl
  ·have := Nu.putS_size x.1; omega
  ·exact putT_size _
  ·have := Nu.putS_size ((x.2.2.length : Nat) : Int); omega
 ·obtain ⟨t, _, rfl⟩ := List.mem_map.1 hq
  exact putT_size t
theorem partsR_next (x : Rec) (j : Nat) (h : j < x.2.2.length) : partsR x (j + 1) = partsR x j ++ [putT x.2.2[j]] := by
 unfold partsR
 rw [List.append_assoc, List.take_add_one, List.getElem?_eq_getElem h, List.map_append]
 rfl
theorem innerT_size (x : Rec) (h : x.2.2.length ≤ 20) : (innerT x).size ≤ 1048576 := by
 have := partsR_cat x _ (Nat.le_refl _)
 show (cat _).toArray.size ≤ _
 rw [List.size_toArray]
 omega
theorem sealV_size (t : ByteArray) : (Se.sealV t).size ≤ 8000 := by
 unfold Se.sealV
 split
 ·rw [ByteArray.size_append, Se.fourS_size]; omega
 ·exact Nat.zero_le _
theorem recT_size (x : Rec) : (recT x).size ≤ 8010 := putT_size _
theorem own_oneK {W : World} {base size n : Nat} {e : TypeId} {v : Value} {xs : List Value} (h : W.ownsRow base e size v n xs) : ∃ a cap, v = .slice a n cap := by
 obtain ⟨_, h⟩ := h
 rcases h with ⟨h, h0⟩ | ⟨g, cap, cur, hv, _⟩
 ·exact ⟨none, 0, by rw [h, h0]⟩
 ·exact ⟨_, cap, hv⟩
theorem own_three (W : World) (base : Nat) (a b c : ByteArray) (g : Nat) (hg : W.heap[g]? = some (.cells #[.string a, .string b, .string c] 9 (0, 0))) (hb : base ≤ g) : OwnS W base (.slice (some ⟨g, 0, none⟩) 3 3) [a, b, c] :=
 ⟨rfl, .inr ⟨g, 3, _, rfl, hb, hg, Nat.le_refl _, by unfold maxLen; omega, rfl, rfl⟩⟩
set_option maxRecDepth 100000 in
set_option maxHeartbeats 4000000 in
theorem text_impl (x : MR) (w : World) (hi1 : -9223372036854775808 ≤ x.1.1) (hi2 : x.1.1 ≤ 9223372036854775807) (ht : x.1.2.1.size ≤ 8000) (hp20 : x.1.2.2.length ≤ 20) (hq : ∀ q ∈ x.1.2.2, q.size ≤ 8000) (hs : ∃ a cap, x.2 = .slice a x.1.2.2.length cap ∧ x.1.2.2.length ≤ cap ∧ Strs w w.heap.size a x.1.2.2) :
  Calls Tryz.prog 43 #[.agg #[.int .i64 x.1.1, .string x.1.2.1, x.2]] w fun e w' => e = .returned (.string (recT x.1)) ∧ Below w.heap.size w w' := by
 obtain ⟨i0, hif, hz0', hz1, hz2⟩ := info_parts St.Tryz.infoS9
 obtain ⟨⟨i, t, p⟩, v⟩ := x
 obtain ⟨a, cap, hv, hc, hst⟩ := hs
 dsimp only at hi1 hi2 ht hp20 hq hv hc hst ⊢
 subst hv
 obtain ⟨n, hn⟩ : ∃ n, n = p.length := ⟨_, rfl⟩
 have H1 := hideK (fun W => Nu.put_impl i W hi1 hi2)
 have H2 := hideK (fun W => Nu.text_impl t W (by unfold maxLen; omega))
 have H3 := hideK (fun W => Nu.put_impl (n : Int) W (by omega) (by omega))
 have HQ := hideK (fun j (h : j < p.length) W => Nu.text_impl p[j] W (by have := hq p[j] (List.getElem_mem h); unfold maxLen; omega))
 have HJ := hideK (fun aa cp W hW => join_any (partsR (i, t, p) n) aa cp (3 + n) W hW (by rw [partsR_len _ _ (by rw [hn]; exact Nat.le_refl _)]) (by omega) (by have := partsR_cat (i, t, p) n (by rw [hn]; exact Nat.le_refl _); omega))
 have HSE := hideK (fun W => Se.seal_impl (innerT (i, t, p)) W (by have := innerT_size (i, t, p) hp20; unfold maxLen; omega))
 have HTX := hideK (fun W => Nu.text_impl (Se.sealV (innerT (i, t, p))) W (by have := sealV_size (innerT (i, t, p)); unfold maxLen; omega))
 have HRT : Hid (recT (i, t, p) = putT (Se.sealV (innerT (i, t, p)))) := rfl
 have HIN : Hid (innerT (i, t, p) = ⟨(cat (partsR (i, t, p) n)).toArray⟩) := by unfold Hid innerT; rw [hn]
 rw [← HIN.out] at HJ
 rw [HRT.out]
 have HP0 : Hid (partsR (i, t, p) 0 = [putS i, putT t, putS (n : Int)]) := by unfold Hid partsR; rw [hn]; simp
 have HPN := hideK (fun j (h : j < p.length) => partsR_next (i, t, p) j h)
 have HPL := hideK (fun j (h : j ≤ p.length) => partsR_len (i, t, p) j h)
 have HST := hideK hst
 have HN := hideK hn
 rw [← hn] at hp20 hc ⊢
 generalize innerT (i, t, p) = I at HJ HSE HTX ⊢
 generalize Se.sealV I = J at HSE HTX ⊢
 generalize putT J = R at HTX ⊢
 generalize putS i = A at H1 HP0
 generalize putT t = B at H2 HP0
 generalize putS (n : Int) = C at H3 HP0
 clear hst hq hn HRT HIN ht hi1 hi2
 have C0 := hideK ((Cx.nil w).new (.cells #[.int .i64 i, .string t, .slice a n cap] 71))
 go_enter Tryz.func43, Tryz.ntmps43
 go_upto_region 1 with fail
 have W0B : Hid (Below w.heap.size w (w.alloc (.cells #[.int .i64 i, .string t, .slice a n cap] 71))) := (Below.refl _ _).alloc (Nat.le_refl _) _
 have W0C : Hid (∀ pp : Addr, pp.block < w.heap.size → (w.alloc (.cells #[.int .i64 i, .string t, .slice a n cap] 71)).cell? pp = w.cell? pp) := fun pp h => W0B.out.cell h
 have W0L : Hid (w.heap.size ≤ (w.alloc (.cells #[.int .i64 i, .string t, .slice a n cap] 71)).heap.size) := W0B.out.size
 generalize w.alloc _ = w0 at C0 W0B W0C W0L ⊢
 generalize hgx : w.heap.size = gx at C0 ⊢
 have HGX := hideK hgx
 clear hgx
 have CX : Hid (∀ W, Below w0.heap.size w0 W → W.cell? ⟨gx, 0, none⟩ = some (.int .i64 i) ∧ W.cell? ⟨gx, 1, none⟩ = some (.string t) ∧ W.cell? ⟨gx, 2, none⟩ = some (.slice a n cap)) := fun W h => cells3 (blkL (C0.out.get 0 rfl) h)
 go_cut [3] from 6 to 16 (fun s3 wx => ∃ g : Nat, s3 = .slice (some ⟨g, 0, none⟩) 3 3 ∧ wx.heap[g]? = some (.cells #[.string A, .string B, .string C] 9 (0, 0)) ∧ w0.heap.size ≤ g ∧ Below w0.heap.size w0 wx)
 case first =>
  have hS0 := CX.out _ (lm_drew (Below.refl w0.heap.size w0))
  go_region_held3 (fun W => W.cell? ⟨gx, 0, none⟩ = some (.int .i64 i) ∧ W.cell? ⟨gx, 1, none⟩ = some (.string t) ∧ W.cell? ⟨gx, 2, none⟩ = some (.slice a n cap))
   (first | assumption | exact CX.out _ (by repeat (first | exact L1.out | exact L2.out | exact L3.out | exact Below.refl _ _ | refine lm_alloc ?_ _ | refine lm_drew ?_)))
   (first
    | (go_at_call 61; (with_reducible refine (H1.out _).mono ?_); rintro e w1 ⟨rfl, hb⟩; have L1 := hideK (lowL (w0 := w0) (by repeat (first | exact L2.out | exact L3.out | exact Below.refl _ _ | refine lm_alloc ?_ _ | refine lm_drew ?_)) hb); clear hb)
    | (go_at_call 62; (with_reducible refine (H2.out _).mono ?_); rintro e w2 ⟨rfl, hb⟩; have L2 := hideK (lowL (w0 := w0) (by repeat (first | exact L1.out | exact L3.out | exact Below.refl _ _ | refine lm_alloc ?_ _ | refine lm_drew ?_)) hb); clear hb)
    | (go_at_call 61; (with_reducible refine (H3.out _).mono ?_); rintro e w3 ⟨rfl, hb⟩; have L3 := hideK (lowL (w0 := w0) (by repeat (first | exact L1.out | exact L2.out | exact Below.refl _ _ | refine lm_alloc ?_ _ | refine lm_drew ?_)) hb); clear hb))
  all_goals (try go_wp2_with fail)
  all_goals (go_meet; first | exact ⟨_, rfl, heap_alloc_new _ _, L3.out.size, lm_alloc L3.out _⟩ | exact ⟨_, rfl, heap_alloc_new _ _, L2.out.size, lm_alloc L2.out _⟩ | exact ⟨_, rfl, heap_alloc_new _ _, L1.out.size, lm_alloc L1.out _⟩)
 case rest =>
  obtain ⟨g, rfl, hgb, hgl, hbx⟩ := hcut
  have O1 := hideK (own_three wc w0.heap.size A B C g hgb hgl)
  rw [← HP0.out] at O1
  have LC := hideK hbx
  have C1 := hideK (C0.out.call hbx)
  clear hgb hbx H1 H2 H3 C0 CX
  obtain ⟨x0, x1, x2⟩ := cells3 (C1.out.get 0 rfl)
  have hz := C1.out.low.size
  have hz0 := LC.out.size
  go_wp2_with fail
  go_loopw [20, 3, 5] (fun jv tv _ wr => ∃ (j : Nat) (aa : Option Addr) (cc : Nat), jv = .int .i64 j ∧ tv = .slice aa (3 + j : Nat) cc ∧ j ≤ n ∧ OwnS wr w0.heap.size (.slice aa (3 + j) cc) (partsR (i, t, p) j) ∧ Below w0.heap.size w0 wr) (fun jv _ _ _ => n - (intOf jv).toNat)
  case atStart => exact ⟨0, _, _, rfl, rfl, Nat.zero_le _, O1.out, LC.out⟩
  case round =>
   obtain ⟨j, aa, cc, rfl, rfl, hj, ho, hbw⟩ := hrel
   have O := hideK ho
   have BW := hideK hbw
   have hzr := hbw.size
   clear ho hbw O1 LC
   by_cases hlt : j < n
   ·have hlt' : (j : Int) < (n : Int) := by omega
    have hjl : j < p.length := by rw [← HN.out]; exact hlt
    have HTJ := hideK (fun W => HQ.out j hjl W)
    have HNX := hideK (HPN.out j hjl)
    have HLJ := hideK (HPL.out j (by omega))
    have hbx := C1.out.low
    have hcx := C1.out.get 0 rfl
    obtain ⟨bb, off, hab, hbl, hcl⟩ := HST.out.some (by omega)
    subst hab
    have cj : wr.cell? ⟨bb, off + j, none⟩ = some (.string p[j]) := by
     have h1 := (BW.out.cell (p := ⟨bb, off + j, none⟩) (show bb < w0.heap.size by have := HGX.out; have := W0L.out; omega))
     rw [h1]
     have h2 := hcl j hjl
     rw [← h2]
     exact W0C.out ⟨bb, off + j, none⟩ hbl
    generalize p[j] = q at HTJ HNX cj
    generalize putT q = Q at HTJ HNX
    clear hcl hbx hcx hjl
    go_wp2_with fail
    refine (HTJ.out _).mono ?_
    rintro e w3 ⟨rfl, hb⟩
    have O3 := hideK (O.out.below hb)
    have B3 := hideK (BW.out.trans (hb.mono hzr))
    have hz3 := B3.out.size
    clear hb O cj
    have OW3 : Hid (w3.ownsRow w0.heap.size 9 1 (.slice aa (3 + j) cc) (3 + j) ((partsR (i, t, p) j).map Value.string)) := by
     have := O3.out
     unfold OwnS at this
     rw [HLJ.out] at this
     exact this
    go_wp2_with (at_builtin; refine wpList_append_own _ rfl (.tmp 24) (.tmp 27) 33 rfl w0.heap.size 9 i0 (.string ⟨#[]⟩) 1 16 Tryz.underlying33 hif hz0' hz1 hz2 rfl (by decide) _ _ _ rfl (World.ownsRow.alloc OW3.out _) ⟨w3.heap.size, 0, none⟩ 1 1 [.string Q] rfl rfl (one_newS w3 _ _) (one_cellS _) (by unfold maxLen; omega) (by omega) (by simp; omega) ?_)
    intro v' w4 hown hgrow _
    obtain ⟨aa', cc', hv'⟩ := own_oneK hown
    subst hv'
    have O4 : Hid (OwnS w4 w0.heap.size (.slice aa' (3 + (j + 1)) cc') (partsR (i, t, p) (j + 1))) := by
     rw [HNX.out]
     exact OwnS.snoc (by rw [HLJ.out]; exact hown)
    have B4 := hideK (app_one B3.out hz3 (Nat.le_refl _) OW3.out hgrow)
    clear hown hgrow
    go_wp2_with fail
    go_roundw
    case rel => exact ⟨j + 1, aa', cc', by go_num, by rw [Nat.add_assoc], by omega, O4.out, B4.out⟩
    case measure => simp [intOf]; omega
   ·obtain rfl : j = n := by omega
    have hltD : decide ((j : Int) < (j : Int)) = false := by simp
    obtain ⟨a1, c1, hv1, _, hst1⟩ := O.out.strs
    have hv2 : aa = a1 ∧ cc = c1 := by
     simp at hv1
     exact ⟨hv1.1, hv1.2.2⟩
    obtain ⟨rfl, rfl⟩ := hv2
    have HJ1 := hideK (HJ.out aa cc wr hst1)
    clear hst1 hv1
    go_wp2_with fail
    refine HJ1.out.mono ?_
    rintro e w3 ⟨rfl, hb⟩
    have B3 := hideK (BW.out.trans (hb.mono hzr))
    clear hb HJ1 O
    go_wp2_with fail
    refine (HSE.out _).mono ?_
    rintro e w4 ⟨rfl, hb⟩
    have B4 := hideK (lowL B3.out hb)
    clear hb
    go_wp2_with fail
    refine (HTX.out _).mono ?_
    rintro e w5 ⟨rfl, hb⟩
    have B5 := hideK (lowL B4.out hb)
    clear hb
    go_wp2_with fail
    go_ret
    exact ⟨rfl, lowL W0B.out B5.out⟩
end Go.Proofs.YtmeohaiidmmgkaaGreatDoor.Kp


/- The specification's l08Text: a record as it stands in a log. -/
namespace Go.Proofs.YtmeohaiidmmgkaaGreatDoor.Kp
open Go.RowKit
open Go.Proofs.YtmeohaiidmmgkaaGreatDoor.Ls (cells3 lowL blkL)
open Go.Proofs.YtmeohaiidmmgkaaGreatDoor.St (Strs)
open Go.Proofs.YtmeohaiidmmgkaaGreatDoor.Nu (putS putT)
open Go.Proofs.YtmeohaiidmmgkaaGreatDoor.Pk (cat)
def accT (x : Rec) (j : Nat) : ByteArray := ⟨(cat (partsR x j)).toArray⟩
theorem ba_ext {a b : ByteArray} (h : a.data.toList = b.data.toList) : a = b := by
 cases a
 cases b
 congr
 exact Array.toList_inj.1 h
theorem ba_data (a b : ByteArray) : (a ++ b).data.toList = a.data.toList ++ b.data.toList := Joins.data_append a b
theorem accT_zero (x : Rec) : accT x 0 = putS x.1 ++ putT x.2.1 ++ putS (x.2.2.length : Nat) := by
 apply ba_ext
 rw [ba_data, ba_data]
 unfold accT partsR cat
 simp
theorem accT_next (x : Rec) (j : Nat) (h : j < x.2.2.length) : accT x (j + 1) = accT x j ++ putT x.2.2[j] := by
 apply ba_ext
 rw [ba_data]
 unfold accT
 rw [partsR_next x j h]
 unfold cat
 simp
theorem accT_size (x : Rec) (j : Nat) (h : j ≤ x.2.2.length) : (accT x j).size ≤ 8010 * (3 + j) := by
 show (cat _).toArray.size ≤ _
 rw [List.size_toArray]
 exact partsR_cat x j h
theorem mixedT : Tryz.prog.follows .mixedOrders = true := by kernel_rfl
set_option maxRecDepth 100000 in
set_option maxHeartbeats 4000000 in
theorem l08Text_any (x : MR) (w : World) (hi1 : -9223372036854775808 ≤ x.1.1) (hi2 : x.1.1 ≤ 9223372036854775807) (ht : x.1.2.1.size ≤ 8000) (hp20 : x.1.2.2.length ≤ 20) (hq : ∀ q ∈ x.1.2.2, q.size ≤ 8000) (hs : ∃ a cap, x.2 = .slice a x.1.2.2.length cap ∧ x.1.2.2.length ≤ cap ∧ Strs w w.heap.size a x.1.2.2) :
  Calls Tryz.prog 57 #[.agg #[.int .i64 x.1.1, .string x.1.2.1, x.2]] w fun e w' => e = .returned (.string (recT x.1)) ∧ Below w.heap.size w w' := by
 obtain ⟨⟨i, t, p⟩, v⟩ := x
 obtain ⟨a, cap, hv, hc, hst⟩ := hs
 dsimp only at hi1 hi2 ht hp20 hq hv hc hst ⊢
 subst hv
 obtain ⟨n, hn⟩ : ∃ n, n = p.length := ⟨_, rfl⟩
 have H1 := hideK (fun W => Nu.put_spec i W hi1 hi2)
 have H2 := hideK (fun W => Nu.text_spec t W (by unfold maxLen; omega))
 have H3 := hideK (fun W => Nu.put_spec (n : Int) W (by omega) (by omega))
 have HQ := hideK (fun j (h : j < p.length) W => Nu.text_spec p[j] W (by have := hq p[j] (List.getElem_mem h); unfold maxLen; omega))
 have HSE := hideK (fun W => Se.seal_spec (innerT (i, t, p)) W (by have := innerT_size (i, t, p) hp20; unfold maxLen; omega))
 have HTX := hideK (fun W => Nu.text_spec (Se.sealV (innerT (i, t, p))) W (by have := sealV_size (innerT (i, t, p)); unfold maxLen; omega))
 have HRT : Hid (recT (i, t, p) = putT (Se.sealV (innerT (i, t, p)))) := rfl
 have HIN : Hid (innerT (i, t, p) = accT (i, t, p) n) := by unfold Hid innerT accT; rw [hn]
 have HZ : Hid (accT (i, t, p) 0 = putS i ++ putT t ++ putS (n : Int)) := by unfold Hid; rw [accT_zero, hn]
 have HNX := hideK (fun j (h : j < p.length) => accT_next (i, t, p) j h)
 have HSZ := hideK (fun j (h : j ≤ p.length) => accT_size (i, t, p) j h)
 rw [HRT.out]
 have hA := Nu.putS_size i
 have hB := putT_size t
 have hC := Nu.putS_size (n : Int)
 have HPT := hideK (fun (q : ByteArray) => putT_size q)
 have HST := hideK hst
 have HN := hideK hn
 rw [← hn] at hp20 hc ⊢
 generalize innerT (i, t, p) = I at HSE HTX HIN ⊢
 generalize Se.sealV I = J at HSE HTX ⊢
 generalize putT J = R at HTX ⊢
 generalize putS i = A at H1 HZ hA
 generalize putT t = B at H2 HZ hB
 generalize putS (n : Int) = C at H3 HZ hC
 clear hst hq hn HRT ht hi1 hi2
 have C0 := hideK ((Cx.nil w).new (.cells #[.int .i64 i, .string t, .slice a n cap] 69))
 go_enter Tryz.func57, Tryz.ntmps57
 go_upto_region 1 with fail
 generalize w.alloc _ = w0 at C0 ⊢
 generalize hgx : w.heap.size = gx at C0 ⊢
 have HGX := hideK hgx
 clear hgx
 obtain ⟨x0, x1, x2⟩ := cells3 (C0.out.get 0 rfl)
 have g0 := fun d os => cell_regrown x0 d os
 have g1 := fun d os => cell_regrown x1 d os
 have g2 := fun d os => cell_regrown x2 d os
 have hmx := mixedT
 have s1 : ¬ 9223372036854775807 < A.size + B.size := by omega
 have s2 : ¬ 9223372036854775807 < (A ++ B).size + C.size := by rw [ByteArray.size_append]; omega
 refine wp_region_quiet_below (by assumption) (by kernel_rfl) ?_
 repeat (go_big_quiet_step ((first | (go_at_call 75; (with_reducible exact Calls.regrown_of (H1.out _))) | (go_at_call 76; (with_reducible exact Calls.regrown_of (H2.out _))) | (go_at_call 75; (with_reducible exact Calls.regrown_of (H3.out _))))))
 refine wpQuiet_nil ?_
 intro _ hw'
 obtain ⟨⟨dq, osq⟩, hw''⟩ := hw'
 subst hw''
 have K1 := hideK (below_regrown w0 dq osq)
 generalize Go.Sort.grow (redrawn w0 dq) osq = w8 at K1 ⊢
 have C1 := hideK (C0.out.call K1.out)
 clear g0 g1 g2 x0 x1 x2 H1 H2 H3 C0 K1
 rw [← HZ.out]
 go_wp2_with fail
 go_loopw [4, 3] (fun jv tv wr => ∃ (j : Nat), jv = .int .i64 j ∧ tv = .string (accT (i, t, p) j) ∧ j ≤ n ∧ Cx w wr [(gx, .cells #[.int .i64 i, .string t, .slice a n cap] 69)]) (fun jv _ _ => n - (intOf jv).toNat)
 case atStart => exact ⟨0, rfl, rfl, Nat.zero_le _, C1.out⟩
 case round =>
  obtain ⟨j, rfl, rfl, hj, hcx⟩ := hrel
  have CX := hideK hcx
  clear hcx C1
  obtain ⟨x0, x1, x2⟩ := cells3 (CX.out.get 0 rfl)
  by_cases hlt : j < n
  ·have hlt' : (j : Int) < (n : Int) := by omega
   have hjl : j < p.length := by rw [← HN.out]; exact hlt
   have HTJ := hideK (fun W => HQ.out j hjl W)
   have HNJ := hideK (HNX.out j hjl)
   have hsz := HSZ.out j (by omega)
   have hpq := HPT.out p[j]
   obtain ⟨bb, off, hab, hbl, hcl⟩ := HST.out.some (by omega)
   subst hab
   have cj : wr.cell? ⟨bb, off + j, none⟩ = some (.string p[j]) := (CX.out.low.cell (p := ⟨bb, off + j, none⟩) hbl).trans (hcl j hjl)
   generalize p[j] = q at HTJ HNJ cj hpq
   generalize putT q = Q at HTJ HNJ hpq
   generalize accT (i, t, p) j = U at HNJ hsz ⊢
   have s3 : ¬ 9223372036854775807 < U.size + Q.size := by omega
   clear hcl hjl
   go_wp2_with fail
   refine (HTJ.out _).mono ?_
   rintro e w3 ⟨rfl, hb⟩
   have C3 := hideK (CX.out.call hb)
   clear hb CX cj x0 x1 x2
   go_wp2_with fail
   go_roundw
   case rel => exact ⟨j + 1, by go_num, by rw [HNJ.out], by omega, C3.out⟩
   case measure => simp [intOf]; omega
  ·obtain rfl : j = n := by omega
   have hltD : decide ((j : Int) < (j : Int)) = false := by simp
   rw [← HIN.out]
   go_wp2_with fail
   refine (HSE.out _).mono ?_
   rintro e w4 ⟨rfl, hb⟩
   have C4 := hideK (CX.out.call hb)
   clear hb
   go_wp2_with fail
   refine (HTX.out _).mono ?_
   rintro e w5 ⟨rfl, hb⟩
   have C5 := hideK (C4.out.call hb)
   clear hb
   go_wp2_with fail
   go_ret
   exact ⟨rfl, C5.out.low⟩
end Go.Proofs.YtmeohaiidmmgkaaGreatDoor.Kp

