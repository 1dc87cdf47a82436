/- Texts put together: UnImpl, UnShortP, UnShortQ, UnShort, UnIs2, UnpackLaw, PcImpl. -/
import Derived.Test.YthbpenanelbbcaaGreatDoorBz47
import Derived.Test.YthbpenanelbbcaaGreatDoorBz44
import Derived.Test.YthbpenanelbbcaaGreatDoorBz46
import Derived.Test.YthbpenanelbbcaaGreatDoorBz28
import Derived.Test.YthbpenanelbbcaaGreatDoorBz37
import Derived.Deep.RegionHeld3
import Derived.BigQuiet
import Derived.LaidEql
import Derived.WalkKit
import Derived.WalkSpells
import Derived.Stop.Asserts
import Derived.RowKitTokens
import Derived.Test.YthbpenanelbbcaaGreatDoorBz41
/- What impl's BlockUnpack answers, given what readShort does and that errors.Is knows the error itself. -/
namespace Go.Proofs.YthbpenanelbbcaaGreatDoor.Up
open Go.Proofs.YthbpenanelbbcaaGreatDoor.Pk
open Go.RowKit
open Go.Proofs.YthbpenanelbbcaaGreatDoor.Se (sealV unsealV outV unseal_impl)
def ShortOk (ev : Value) : Prop := ∀ (s : ByteArray) (w : World), Glob w ev → 1 ≤ s.size → s.size ≤ 8000 → Calls Tryz.prog 57 #[.string s] w fun e w' => (∃ r v, e = .returned (.tuple #[.string r, v]) ∧ (v = .nilIface ∨ v = ev) ∧ r.size ≤ 8000 ∧ ∀ b, Good s b → r = b ∧ v = .nilIface) ∧ Below w.heap.size w w'
def IsOk (ev : Value) : Prop := ∀ w : World, Calls Tryz.prog 28 #[ev, ev] w fun e w' => e = .returned (.bool true) ∧ Below w.heap.size w w'
set_option maxRecDepth 100000 in
set_option maxHeartbeats 4000000 in
theorem unpack_impl (tid : TypeId) (pv : Value) (HS : Hid (ShortOk (.iface tid pv))) (HI : Hid (IsOk (.iface tid pv))) (s : ByteArray) (w : World) (hs : s.size ≤ 1048576) (hgl : Glob w (.iface tid pv)) :
  Calls Tryz.prog 7 #[.string s] w fun e w' => e = .returned (ansU s) ∧ Below w.heap.size w w' := by
 obtain ⟨g, hg⟩ : ∃ g, g = w.heap.size := ⟨_, rfl⟩
 have HBE := hideP hg.symm
 have HR0 : Hid ((w.alloc (.cells #[.string ⟨#[]⟩, .int .i64 0, .int .i64 0] 26)).heap[g]? = some (.cells #[.string ⟨#[]⟩, .int .i64 0, .int .i64 0] 26 (0, 0))) := by rw [hg]; exact heap_alloc_new w _
 have HL0 : Hid (Below g w (w.alloc (.cells #[.string ⟨#[]⟩, .int .i64 0, .int .i64 0] 26))) := by rw [hg]; exact (Below.refl _ _).alloc (Nat.le_refl _) _
 have HG0 : Hid (Glob (w.alloc (.cells #[.string ⟨#[]⟩, .int .i64 0, .int .i64 0] 26)) (.iface tid pv)) := glob_keep hgl ((Below.refl _ _).alloc (Nat.le_refl _) _)
 clear hgl
 rcases unseal_case s with ⟨t, hu, hse, htz, h4⟩ | ⟨c, hc0, hu⟩
 ·have HU := hideP hu
  have HSE := hideP hse
  have HAN := hideP (ansU_yes hu)
  clear hu hse
  go_enter Tryz.func7, Tryz.ntmps7
  go_wp2_with fail
  rw [← hg]
  generalize hww : w.alloc (.cells #[.string ⟨#[]⟩, .int .i64 0, .int .i64 0] 26) = w0 at HR0 HL0 HG0 ⊢
  clear hww hg
  refine (unseal_impl s _ (by unfold maxLen; omega)).mono ?_
  rintro e w1 ⟨rfl, hb1⟩
  have R1 := hideP (blk_low HR0.out hb1)
  have L1 := hideP (low2 HBE.out HL0.out hb1)
  have G1 := hideP (glob_keep HG0.out hb1)
  clear hb1 HR0 HL0 HG0
  rw [HU.out]
  unfold outV
  go_wp2_with fail
  have Rwx : Hid ((w1.alloc (.cells #[.string t, .int .i64 0, .int .i64 0] 26)).heap[g]? = some (.cells #[.string ⟨#[]⟩, .int .i64 0, .int .i64 0] 26 (0, 0))) := blk_low R1.out ((Below.refl _ _).alloc (Nat.le_refl _) _)
  have Lwx : Hid (Below g w (w1.alloc (.cells #[.string t, .int .i64 0, .int .i64 0] 26))) := low2 HBE.out L1.out ((Below.refl _ _).alloc (Nat.le_refl _) _)
  have Gwx : Hid (Glob (w1.alloc (.cells #[.string t, .int .i64 0, .int .i64 0] 26)) (.iface tid pv)) := glob_keep G1.out ((Below.refl _ _).alloc (Nat.le_refl _) _)
  generalize hww : w1.alloc (.cells #[.string t, .int .i64 0, .int .i64 0] 26) = wx at Rwx Lwx Gwx ⊢
  clear hww R1 L1 G1
  refine (read_block (.iface tid pv) HS t wx (by omega) Gwx.out).mono ?_
  rintro e w2 ⟨⟨r, v, rfl, hv, hrz, hr⟩, hb2⟩
  have R2 := hideP (blk_low Rwx.out hb2)
  have L2 := hideP (low2 HBE.out Lwx.out hb2)
  have G2 := hideP (glob_keep Gwx.out hb2)
  have HR := hideP hr
  have g2 := G2.out.2
  clear hb2 hr Rwx Lwx Gwx
  rcases hv with rfl | rfl
  ·go_wp2_with fail
   refine (is_nil tid pv w2).mono ?_
   rintro e w3 ⟨rfl, rfl⟩
   go_wp2_with fail
   refine (pack_impl r _ (by omega)).mono ?_
   rintro e wp ⟨rfl, hbp⟩
   have Rwp := hideP (blk_low R2.out hbp)
   have Lwp := hideP (low2 HBE.out L2.out hbp)
   clear hbp g2 G2 R2 L2
   obtain ⟨kb, hkb⟩ : ∃ x, x = packB r := ⟨_, rfl⟩
   obtain ⟨ha1, ha2⟩ := ansT_read HSE.out htz h4 (r := r) (fun b h1 h2 => (HR.out b h1 h2).1)
   rw [← hkb] at ha1 ha2 ⊢
   clear hkb
   by_cases hk : kb = s
   ·have HQ := hideP (ha1 hk)
    subst hk
    obtain ⟨cc0, cc1, cc2⟩ := three Rwp.out
    have ff := fun o => frozen_of_row wp g o _ _ Rwp.out
    have s3 := set3_cells Rwp.out (.string r) (.int .i64 0) (.int .i64 0)
    go_wp2_with fail
    refine bodyPost_ret (v := outV r 0 0) (by simp [results, outV, Tryz.results7, go_sem, s3.1, s3.2.1, s3.2.2]) rfl ⟨?_, ?_⟩
    ·rw [HAN.out, HQ.out]
    ·rw [HBE.out]
     exact set3_low Lwp.out _ _ _
   ·have HQ := hideP (ha2 hk)
    have hkl : (kb.toList == s.toList) = false := by rw [list_eqP]; exact decide_eq_false hk
    obtain ⟨cc0, cc1, cc2⟩ := three Rwp.out
    have ff := fun o => frozen_of_row wp g o _ _ Rwp.out
    have s3 := set3_cells Rwp.out (.string ⟨#[]⟩) (.int .i64 0) (.int .i64 3)
    go_wp2_with fail
    refine bodyPost_ret (v := outV ⟨#[]⟩ 0 3) (by simp [results, outV, Tryz.results7, go_sem, s3.1, s3.2.1, s3.2.2]) rfl ⟨?_, ?_⟩
    ·rw [HAN.out, HQ.out]
    ·rw [HBE.out]
     exact set3_low Lwp.out _ _ _
  ·have HQ := hideP (ansT_none (t := t) fun b h1 h2 => by have := (HR.out b h1 h2).2; cases this)
   go_wp2_with fail
   refine (HI.out w2).mono ?_
   rintro e wp ⟨rfl, hbp⟩
   have Rwp := hideP (blk_low R2.out hbp)
   have Lwp := hideP (low2 HBE.out L2.out hbp)
   clear hbp g2 G2 R2 L2
   obtain ⟨cc0, cc1, cc2⟩ := three Rwp.out
   have ff := fun o => frozen_of_row wp g o _ _ Rwp.out
   have s3 := set3_cells Rwp.out (.string ⟨#[]⟩) (.int .i64 0) (.int .i64 3)
   go_wp2_with fail
   refine bodyPost_ret (v := outV ⟨#[]⟩ 0 3) (by simp [results, outV, Tryz.results7, go_sem, s3.1, s3.2.1, s3.2.2]) rfl ⟨?_, ?_⟩
   ·rw [HAN.out, HQ.out]
   ·rw [HBE.out]
    exact set3_low Lwp.out _ _ _
 ·have HAN := hideP (ansU_no hc0 hu)
  have HU := hideP hu
  have hc' : (c != 0) = true := by simp; exact hc0
  clear hu hc0
  go_enter Tryz.func7, Tryz.ntmps7
  go_wp2_with fail
  rw [← hg]
  generalize hww : w.alloc (.cells #[.string ⟨#[]⟩, .int .i64 0, .int .i64 0] 26) = w0 at HR0 HL0 HG0 ⊢
  clear hww hg
  refine (unseal_impl s _ (by unfold maxLen; omega)).mono ?_
  rintro e w1 ⟨rfl, hb1⟩
  have R1 := hideP (blk_low HR0.out hb1)
  have L1 := hideP (low2 HBE.out HL0.out hb1)
  clear hb1 HR0 HL0 HG0
  rw [HU.out]
  unfold outV
  obtain ⟨cc0, cc1, cc2⟩ := three R1.out
  have ff := fun o => frozen_of_row w1 g o _ _ R1.out
  have s3 := fun o => set3_alloc R1.out (.string ⟨#[]⟩) (.int .i64 0) (.int .i64 c) o
  have HGW : Hid (g < w1.heap.size) := (Array.getElem?_eq_some_iff.1 R1.out).1
  have hgw := HGW.out
  go_wp2_with fail
  refine bodyPost_ret (v := outV ⟨#[]⟩ 0 c) (by simp [results, outV, Tryz.results7, go_sem, (s3 _).1, (s3 _).2.1, (s3 _).2.2]) rfl ⟨?_, ?_⟩
  ·rw [HAN.out]
  ·rw [HBE.out]
   exact set3_lowA HBE.out L1.out _ _ _ _
end Go.Proofs.YthbpenanelbbcaaGreatDoor.Up


/- Plain facts for impl's readShort. -/
namespace Go.Proofs.YthbpenanelbbcaaGreatDoor.Up
open Go.Proofs.YthbpenanelbbcaaGreatDoor.Pk
open Go.RowKit
open Go.Proofs.YthbpenanelbbcaaGreatDoor.Gn (rd run numR)
open Go.Proofs.YthbpenanelbbcaaGreatDoor.Hf (up up_length up_set)
open Go.Proofs.YthbpenanelbbcaaGreatDoor.Bi (above)
theorem run_on (s : ByteArray) : ∀ f k p u, (run s f k p u).2.2 = 0 → p < (run s f k p u).2.1 := by
 intro f
 induction f with
 | zero => intro k p u h; exact absurd (show (3 : Int) = 0 from h) (by decide)
 | succ f ih =>
  intro k p u h
  rw [run] at h ⊢
  split at h
  ·exact absurd h (by decide)
  ·rename_i h1
   rw [if_neg h1]
   split at h
   ·exact absurd h (by decide)
   ·rename_i h2
    rw [if_neg h2]
    split at h
    ·rename_i h3
     rw [if_pos h3]
     split at h
     ·exact absurd h (by decide)
     ·rename_i h4
      rw [if_neg h4]
      show p < p + 1
      omega
    ·rename_i h3
     rw [if_neg h3]
     have := ih _ _ _ h
     omega
theorem rd_on {s : ByteArray} {a : Nat} (h : (rd s (a : Int)).2.2 = 0) : a < (rd s (a : Int)).2.1 := by
 unfold rd at h ⊢
 split at h
 ·exact absurd h (by decide)
 ·rename_i h1
  rw [if_neg h1]
  split at h
  ·exact absurd h (by decide)
  ·rename_i h2
   rw [if_neg h2]
   exact run_on s _ _ _ _ h
def RdI (t : ByteArray) (k : Nat) (p : Nat) : Prop := p ≤ t.size ∧ ∀ b, Good t b → p = posK b k
theorem rdI_step {t : ByteArray} {k p : Nat} (h : RdI t k p) (hk : ∀ b, Good t b → k < (numsAll b).length) :
  ((rd t (p : Int)).2.2 = 0 → RdI t (k + 1) (rd t (p : Int)).2.1 ∧ ∀ b, Good t b → (numsAll b)[k]? = some (rd t (p : Int)).1) ∧ (¬ (rd t (p : Int)).2.2 = 0 → ∀ b, ¬ Good t b) := by
 have key : ∀ b, Good t b → ∃ v, (numsAll b)[k]? = some v ∧ rd t (p : Int) = (v, posK b (k + 1), 0) := by
  intro b hb
  have hl := hk b hb
  have := rd_good hb k hl
  rw [← h.2 b hb] at this
  exact ⟨_, List.getElem?_eq_getElem hl, this⟩
 refine ⟨fun _ => ⟨⟨rd_end t _, fun b hb => ?_⟩, fun b hb => ?_⟩, fun hn b hb => ?_⟩
 ·obtain ⟨v, _, e⟩ := key b hb
  rw [e]
 ·obtain ⟨v, h1, e⟩ := key b hb
  rw [e]
  exact h1
 ·obtain ⟨v, _, e⟩ := key b hb
  exact hn (by rw [e])
theorem rdI_first {t : ByteArray} (h : 1 ≤ t.size) : RdI t 0 1 := ⟨h, fun b _ => by unfold posK; simp [numsL]⟩
theorem four_le (b : ByteArray) (k : Nat) (h : k < 4) : k < (numsAll b).length := by rw [numsAll_len]; omega
end Go.Proofs.YthbpenanelbbcaaGreatDoor.Up


/- More plain facts for impl's readShort: the states of its reading. -/
namespace Go.Proofs.YthbpenanelbbcaaGreatDoor.Up
open Go.Proofs.YthbpenanelbbcaaGreatDoor.Pk
open Go.RowKit
open Go.Proofs.YthbpenanelbbcaaGreatDoor.Gn (rd errV)
open Go.Proofs.YthbpenanelbbcaaGreatDoor.Hf (up up_length up_set)
open Go.Proofs.YthbpenanelbbcaaGreatDoor.Bi (above)
open Go.Proofs.YthbpenanelbbcaaGreatDoor.So (bwtA)
theorem errV_yes {c : Int} (h : c = 0) : errV c = .nilIface := if_pos h
theorem errV_no {c : Int} (h : ¬ c = 0) : errV c = .iface 167 (.agg #[.int .i64 c]) := if_neg h
def HeadF (s : ByteArray) (k : Nat) (l : List Int) : Prop := ∀ b, Good s b → ∀ j, j < k → (numsAll b)[j]? = l[j]?
theorem head_none (s : ByteArray) (l : List Int) : HeadF s 0 l := fun _ _ j h => absurd h (by omega)
theorem head_next {s : ByteArray} {k : Nat} {l : List Int} {x : Int} (h : HeadF s k l) (hk : k < l.length) (hx : ∀ b, Good s b → (numsAll b)[k]? = some x) : HeadF s (k + 1) (l.set k x) := by
 intro b hb j hj
 by_cases e : j = k
 ·subst e
  rw [hx b hb, List.getElem?_set_self hk]
 ·rw [List.getElem?_set_ne (by omega)]
  exact h b hb j (by omega)
def TabF (s : ByteArray) (m : Nat) (l : List Int) : Prop := ∀ b, Good s b → m ≤ above (up (lenS b)) ∧ l = up (tabL (lenS b) (Hf.zeros 257) ((syL (lenS b) 257).take m))
theorem tab_none (s : ByteArray) : TabF s 0 (List.replicate 257 0) := fun b _ => ⟨Nat.zero_le _, by rw [List.take_zero]; exact zeros_up.symm⟩
theorem tab_lt {s : ByteArray} {m : Nat} {l : List Int} {x3 : Int} (hh : HeadF s 4 l) (h3 : l[3]? = some x3) (hlt : (m : Int) < x3) : ∀ b, Good s b → m < above (up (lenS b)) := by
 intro b hb
 have := hh b hb 3 (by omega)
 rw [(numsAll_head b).2.2.2, h3] at this
 have := Option.some.inj this
 omega
theorem tab_len {s : ByteArray} {m : Nat} (h : ∀ b, Good s b → m < above (up (lenS b))) : (∀ b, Good s b → 4 + 2 * m < (numsAll b).length) ∧ (∀ b, Good s b → 4 + 2 * m + 1 < (numsAll b).length) :=
 ⟨fun b hb => by rw [numsAll_len]; have := h b hb; omega, fun b hb => by rw [numsAll_len]; have := h b hb; omega⟩
theorem tab_sym {s : ByteArray} {m : Nat} {y : Int} (h : ∀ b, Good s b → m < above (up (lenS b))) (hy : ∀ b, Good s b → (numsAll b)[4 + 2 * m]? = some y) (hw : y < 0 ∨ 257 ≤ y) : ∀ b, ¬ Good s b := by
 intro b hb
 have hj : m < (syL (lenS b) 257).length := by rw [syL_len]; exact h b hb
 have h1 := (numsAll_pair b m hj).1
 rw [hy b hb] at h1
 have h2 := Option.some.inj h1
 have h3 := syL_lt _ (List.getElem_mem hj)
 omega
theorem tab_next {s : ByteArray} {m y : Nat} {z : Int} {l : List Int} (h : TabF s m l) (hlt : ∀ b, Good s b → m < above (up (lenS b)))
  (h1 : ∀ b, Good s b → (numsAll b)[4 + 2 * m]? = some (y : Int)) (h2 : ∀ b, Good s b → (numsAll b)[4 + 2 * m + 1]? = some z) : TabF s (m + 1) (l.set y z) := by
 intro b hb
 obtain ⟨h3, h4⟩ := h b hb
 have h5 := hlt b hb
 have hj : m < (syL (lenS b) 257).length := by rw [syL_len]; omega
 obtain ⟨k1, k2⟩ := numsAll_pair b m hj
 rw [h1 b hb] at k1
 rw [h2 b hb] at k2
 have e1 : y = (syL (lenS b) 257)[m] := by have := Option.some.inj k1; omega
 have e2 := Option.some.inj k2
 refine ⟨by omega, ?_⟩
 rw [tabL_next _ _ _ _ hj, h4, e2, e1, ← up_set]
def AllF (s : ByteArray) (p : Nat) (l l' : List Int) : Prop := ∀ b, Good s b → l' = up (lenS b) ∧ l[1]? = some ((bwtA b : Nat) : Int) ∧ l[2]? = some ((symS b).length : Int) ∧ s.extract p s.size = bitsS b
theorem tab_end {s : ByteArray} {m p : Nat} {l l' : List Int} {x3 : Int} (h : TabF s m l') (hh : HeadF s 4 l) (hr : RdI s (4 + 2 * m) p) (h3 : l[3]? = some x3) (hge : x3 ≤ (m : Int)) : AllF s p l l' := by
  intro b hb
  have h4 := hh b hb 3 (by omega)
  rw [(numsAll_head b).2.2.2, h3] at h4
  have h5 := Option.some.inj h4
  obtain ⟨h6, h7⟩ := h b hb
  have e : m = above (up (lenS b)) := by omega
  refine ⟨?_, ?_, ?_, ?_⟩
  · rw [h7, List.take_of_length_le (by rw [syL_len]; omega), tabL_all _ (lenS_facts b).1]
  · rw [← hh b hb 1 (by omega), (numsAll_head b).2.1]
  · rw [← hh b hb 2 (by omega), (numsAll_head b).2.2.1]
  · have e2 : p = posK b (numsAll b).length := by
      rw [numsAll_len, ← e]
      exact hr.2 b hb
    rw [e2]
    exact (posK_all hb).2
theorem list4 {l : List Int} (h : l.length = 4) : ∃ a b c d, l = [a, b, c, d] := by
 match l, h with
 | [a, b, c, d], _ => exact ⟨a, b, c, d, rfl⟩
end Go.Proofs.YthbpenanelbbcaaGreatDoor.Up


/- The walk of impl.readShort, whose labels are its states. -/
namespace Go.Proofs.YthbpenanelbbcaaGreatDoor.Up
open Go.Proofs.YthbpenanelbbcaaGreatDoor.Pk
open Go.RowKit Go.Proofs.YthbpenanelbbcaaGreatDoor.Jump
open Go.Proofs.YthbpenanelbbcaaGreatDoor.Gn (rd errV read_any)
open Go.Proofs.YthbpenanelbbcaaGreatDoor.In (Ints IsI made_ints)
open Go.Proofs.YthbpenanelbbcaaGreatDoor.Hf (up)
open Go.Proofs.YthbpenanelbbcaaGreatDoor.So (bwtA)
structure Mem (g : Nat) (ev : Value) (w0 w : World) (l l' : List Int) : Prop where
 told : IsI w g 63 l
 four : l.length = 4
 lens : IsI w (g + 1) 2 l'
 many : l'.length = 257
 low : Below g w0 w
 glob : Glob w ev
theorem Mem.setT {g : Nat} {ev : Value} {w0 w : World} {l l' : List Int} (h : Mem g ev w0 w l l') (hg : 0 < g) (k : Nat) (x : Int) : Mem g ev w0 (w.setCell ⟨g, k, none⟩ (.int .i64 x)) (l.set k x) l' :=
  ⟨h.told.set k x, by rw [List.length_set]; exact h.four, h.lens.set_other ⟨g, k, none⟩ _ (by show g + 1 ≠ g; omega), h.many, h.low.setCell (p := ⟨g, k, none⟩) (Nat.le_refl _) _,
   ⟨Nat.lt_of_lt_of_le h.glob.1 (Nat.le_of_eq (by simp [World.setCell])), (Below.cell (((Below.refl g w).setCell (p := ⟨g, k, none⟩) (Nat.le_refl _) _)) (p := ⟨0, 0, none⟩) hg).trans h.glob.2⟩⟩
theorem Mem.setL {g : Nat} {ev : Value} {w0 w : World} {l l' : List Int} (h : Mem g ev w0 w l l') (hg : 0 < g) (k : Nat) (x : Int) : Mem g ev w0 (w.setCell ⟨g + 1, k, none⟩ (.int .i64 x)) l (l'.set k x) :=
  ⟨h.told.set_other ⟨g + 1, k, none⟩ _ (by show g ≠ g + 1; omega), h.four, h.lens.set k x, by rw [List.length_set]; exact h.many, h.low.setCell (p := ⟨g + 1, k, none⟩) (by show g ≤ g + 1; omega) _,
   ⟨Nat.lt_of_lt_of_le h.glob.1 (Nat.le_of_eq (by simp [World.setCell])), (Below.cell (((Below.refl g w).setCell (p := ⟨g + 1, k, none⟩) (by show g ≤ g + 1; omega) _)) (p := ⟨0, 0, none⟩) hg).trans h.glob.2⟩⟩
def JS (s : ByteArray) (g : Nat) (ev : Value) (w0 : World) (lab : Nat) (a : Act) (w : World) : Prop :=
 (lab = 0 ∧ ∃ (k p : Nat) (l l' : List Int) (x5 x6 x10 x11 x12 x13 x14 x15 x16 x17 x18 x19 x20 x21 x22 x23 x24 x25 x26 x27 x28 x29 x30 x31 x32 x33 x34 x35 x36 x37 x38 x39 x40 x41 x42 x43 x44 x45 x46 x47 x48 x49 x50 x51 x52 x53 x54 x55 x56 x57 x58 x59 x60 x61 x62 x63 x64 x65 x66 x67 x68 x69 : Value), a = { tmps := #[.string s, undef, .string ⟨#[]⟩, .nilIface, .pointer (some ⟨g, 0, none⟩), x5, x6, .slice (some ⟨g + 1, 0, none⟩) 257 257, .int .i64 (p : Nat), .int .i64 (k : Nat), x10, x11, x12, x13, x14, x15, x16, x17, x18, x19, x20, x21, x22, x23, x24, x25, x26, x27, x28, x29, x30, x31, x32, x33, x34, x35, x36, x37, x38, x39, x40, x41, x42, x43, x44, x45, x46, x47, x48, x49, x50, x51, x52, x53, x54, x55, x56, x57, x58, x59, x60, x61, x62, x63, x64, x65, x66, x67, x68, x69], defers := [] } ∧ 1 ≤ k ∧ k ≤ 3 ∧ RdI s k p ∧ HeadF s k l ∧ l' = List.replicate 257 0 ∧ Mem g ev w0 w l l') ∨
 (lab = 3 ∧ ∃ (k p : Nat) (l l' : List Int) (x5 x6 x10 x11 x12 x13 x14 x15 x16 x17 x18 x19 x20 x21 x22 x23 x24 x25 x26 x27 x28 x29 x30 x31 x32 x33 x34 x35 x36 x37 x38 x39 x40 x41 x42 x43 x44 x45 x46 x47 x48 x49 x50 x51 x52 x53 x54 x55 x56 x57 x58 x59 x60 x61 x62 x63 x64 x65 x66 x67 x68 x69 : Value), a = { tmps := #[.string s, undef, .string ⟨#[]⟩, .nilIface, .pointer (some ⟨g, 0, none⟩), x5, x6, .slice (some ⟨g + 1, 0, none⟩) 257 257, .int .i64 (p : Nat), .int .i64 (k : Nat), x10, x11, x12, x13, x14, x15, x16, x17, x18, x19, x20, x21, x22, x23, x24, x25, x26, x27, x28, x29, x30, x31, x32, x33, x34, x35, x36, x37, x38, x39, x40, x41, x42, x43, x44, x45, x46, x47, x48, x49, x50, x51, x52, x53, x54, x55, x56, x57, x58, x59, x60, x61, x62, x63, x64, x65, x66, x67, x68, x69], defers := [] } ∧ RdI s (4 + 2 * k) p ∧ k ≤ p ∧ HeadF s 4 l ∧ TabF s k l' ∧ Mem g ev w0 w l l') ∨
 (lab = 2 ∧ ∃ (k p : Nat) (l l' : List Int) (x5 x6 x10 x11 x12 x13 x14 x15 x16 x17 x18 x19 x20 x21 x22 x23 x24 x25 x26 x27 x28 x29 x30 x31 x32 x33 x34 x35 x36 x37 x38 x39 x40 x41 x42 x43 x44 x45 x46 x47 x48 x49 x50 x51 x52 x53 x54 x55 x56 x57 x58 x59 x60 x61 x62 x63 x64 x65 x66 x67 x68 x69 : Value), a = { tmps := #[.string s, undef, .string ⟨#[]⟩, .nilIface, .pointer (some ⟨g, 0, none⟩), x5, x6, .slice (some ⟨g + 1, 0, none⟩) 257 257, .int .i64 (p : Nat), .int .i64 (k : Nat), x10, x11, x12, x13, x14, x15, x16, x17, x18, x19, x20, x21, x22, x23, x24, x25, x26, x27, x28, x29, x30, x31, x32, x33, x34, x35, x36, x37, x38, x39, x40, x41, x42, x43, x44, x45, x46, x47, x48, x49, x50, x51, x52, x53, x54, x55, x56, x57, x58, x59, x60, x61, x62, x63, x64, x65, x66, x67, x68, x69], defers := [] } ∧ p ≤ s.size ∧ AllF s p l l' ∧ Mem g ev w0 w l l') ∨
 (lab = 1 ∧ ∃ (k p : Int) (l l' : List Int) (x5 x6 x10 x11 x12 x13 x14 x15 x16 x17 x18 x19 x20 x21 x22 x23 x24 x25 x26 x27 x28 x29 x30 x31 x32 x33 x34 x35 x36 x37 x38 x39 x40 x41 x42 x43 x44 x45 x46 x47 x48 x49 x50 x51 x52 x53 x54 x55 x56 x57 x58 x59 x60 x61 x62 x63 x64 x65 x66 x67 x68 x69 : Value), a = { tmps := #[.string s, undef, .string ⟨#[]⟩, .nilIface, .pointer (some ⟨g, 0, none⟩), x5, x6, .slice (some ⟨g + 1, 0, none⟩) 257 257, .int .i64 p, .int .i64 k, x10, x11, x12, x13, x14, x15, x16, x17, x18, x19, x20, x21, x22, x23, x24, x25, x26, x27, x28, x29, x30, x31, x32, x33, x34, x35, x36, x37, x38, x39, x40, x41, x42, x43, x44, x45, x46, x47, x48, x49, x50, x51, x52, x53, x54, x55, x56, x57, x58, x59, x60, x61, x62, x63, x64, x65, x66, x67, x68, x69], defers := [] } ∧ (∀ b, ¬ Good s b) ∧ Mem g ev w0 w l l')
theorem JS0 (s : ByteArray) (g : Nat) (ev : Value) (w0 : World) (w : World) (k p : Nat) (l l' : List Int) (x5 x6 x10 x11 x12 x13 x14 x15 x16 x17 x18 x19 x20 x21 x22 x23 x24 x25 x26 x27 x28 x29 x30 x31 x32 x33 x34 x35 x36 x37 x38 x39 x40 x41 x42 x43 x44 x45 x46 x47 x48 x49 x50 x51 x52 x53 x54 x55 x56 x57 x58 x59 x60 x61 x62 x63 x64 x65 x66 x67 x68 x69 : Value) (h0 : 1 ≤ k) (h1 : k ≤ 3) (h2 : RdI s k p) (h3 : HeadF s k l) (h4 : l' = List.replicate 257 0) (h5 : Mem g ev w0 w l l') : JS s g ev w0 0 { tmps := #[.string s, undef, .string ⟨#[]⟩, .nilIface, .pointer (some ⟨g, 0, none⟩), x5, x6, .slice (some ⟨g + 1, 0, none⟩) 257 257, .int .i64 (p : Nat), .int .i64 (k : Nat), x10, x11, x12, x13, x14, x15, x16, x17, x18, x19, x20, x21, x22, x23, x24, x25, x26, x27, x28, x29, x30, x31, x32, x33, x34, x35, x36, x37, x38, x39, x40, x41, x42, x43, x44, x45, x46, x47, x48, x49, x50, x51, x52, x53, x54, x55, x56, x57, x58, x59, x60, x61, x62, x63, x64, x65, x66, x67, x68, x69], defers := [] } w :=
 .inl ⟨rfl, k, p, l, l', x5, x6, x10, x11, x12, x13, x14, x15, x16, x17, x18, x19, x20, x21, x22, x23, x24, x25, x26, x27, x28, x29, x30, x31, x32, x33, x34, x35, x36, x37, x38, x39, x40, x41, x42, x43, x44, x45, x46, x47, x48, x49, x50, x51, x52, x53, x54, x55, x56, x57, x58, x59, x60, x61, x62, x63, x64, x65, x66, x67, x68, x69, rfl, h0, h1, h2, h3, h4, h5⟩
theorem JS3 (s : ByteArray) (g : Nat) (ev : Value) (w0 : World) (w : World) (k p : Nat) (l l' : List Int) (x5 x6 x10 x11 x12 x13 x14 x15 x16 x17 x18 x19 x20 x21 x22 x23 x24 x25 x26 x27 x28 x29 x30 x31 x32 x33 x34 x35 x36 x37 x38 x39 x40 x41 x42 x43 x44 x45 x46 x47 x48 x49 x50 x51 x52 x53 x54 x55 x56 x57 x58 x59 x60 x61 x62 x63 x64 x65 x66 x67 x68 x69 : Value) (h0 : RdI s (4 + 2 * k) p) (h1 : k ≤ p) (h2 : HeadF s 4 l) (h3 : TabF s k l') (h4 : Mem g ev w0 w l l') : JS s g ev w0 3 { tmps := #[.string s, undef, .string ⟨#[]⟩, .nilIface, .pointer (some ⟨g, 0, none⟩), x5, x6, .slice (some ⟨g + 1, 0, none⟩) 257 257, .int .i64 (p : Nat), .int .i64 (k : Nat), x10, x11, x12, x13, x14, x15, x16, x17, x18, x19, x20, x21, x22, x23, x24, x25, x26, x27, x28, x29, x30, x31, x32, x33, x34, x35, x36, x37, x38, x39, x40, x41, x42, x43, x44, x45, x46, x47, x48, x49, x50, x51, x52, x53, x54, x55, x56, x57, x58, x59, x60, x61, x62, x63, x64, x65, x66, x67, x68, x69], defers := [] } w :=
 .inr <| .inl ⟨rfl, k, p, l, l', x5, x6, x10, x11, x12, x13, x14, x15, x16, x17, x18, x19, x20, x21, x22, x23, x24, x25, x26, x27, x28, x29, x30, x31, x32, x33, x34, x35, x36, x37, x38, x39, x40, x41, x42, x43, x44, x45, x46, x47, x48, x49, x50, x51, x52, x53, x54, x55, x56, x57, x58, x59, x60, x61, x62, x63, x64, x65, x66, x67, x68, x69, rfl, h0, h1, h2, h3, h4⟩
theorem JS2 (s : ByteArray) (g : Nat) (ev : Value) (w0 : World) (w : World) (k p : Nat) (l l' : List Int) (x5 x6 x10 x11 x12 x13 x14 x15 x16 x17 x18 x19 x20 x21 x22 x23 x24 x25 x26 x27 x28 x29 x30 x31 x32 x33 x34 x35 x36 x37 x38 x39 x40 x41 x42 x43 x44 x45 x46 x47 x48 x49 x50 x51 x52 x53 x54 x55 x56 x57 x58 x59 x60 x61 x62 x63 x64 x65 x66 x67 x68 x69 : Value) (h0 : p ≤ s.size) (h1 : AllF s p l l') (h2 : Mem g ev w0 w l l') : JS s g ev w0 2 { tmps := #[.string s, undef, .string ⟨#[]⟩, .nilIface, .pointer (some ⟨g, 0, none⟩), x5, x6, .slice (some ⟨g + 1, 0, none⟩) 257 257, .int .i64 (p : Nat), .int .i64 (k : Nat), x10, x11, x12, x13, x14, x15, x16, x17, x18, x19, x20, x21, x22, x23, x24, x25, x26, x27, x28, x29, x30, x31, x32, x33, x34, x35, x36, x37, x38, x39, x40, x41, x42, x43, x44, x45, x46, x47, x48, x49, x50, x51, x52, x53, x54, x55, x56, x57, x58, x59, x60, x61, x62, x63, x64, x65, x66, x67, x68, x69], defers := [] } w :=
 .inr <| .inr <| .inl ⟨rfl, k, p, l, l', x5, x6, x10, x11, x12, x13, x14, x15, x16, x17, x18, x19, x20, x21, x22, x23, x24, x25, x26, x27, x28, x29, x30, x31, x32, x33, x34, x35, x36, x37, x38, x39, x40, x41, x42, x43, x44, x45, x46, x47, x48, x49, x50, x51, x52, x53, x54, x55, x56, x57, x58, x59, x60, x61, x62, x63, x64, x65, x66, x67, x68, x69, rfl, h0, h1, h2⟩
theorem JS1 (s : ByteArray) (g : Nat) (ev : Value) (w0 : World) (w : World) (k p : Int) (l l' : List Int) (x5 x6 x10 x11 x12 x13 x14 x15 x16 x17 x18 x19 x20 x21 x22 x23 x24 x25 x26 x27 x28 x29 x30 x31 x32 x33 x34 x35 x36 x37 x38 x39 x40 x41 x42 x43 x44 x45 x46 x47 x48 x49 x50 x51 x52 x53 x54 x55 x56 x57 x58 x59 x60 x61 x62 x63 x64 x65 x66 x67 x68 x69 : Value) (h0 : (∀ b, ¬ Good s b)) (h1 : Mem g ev w0 w l l') : JS s g ev w0 1 { tmps := #[.string s, undef, .string ⟨#[]⟩, .nilIface, .pointer (some ⟨g, 0, none⟩), x5, x6, .slice (some ⟨g + 1, 0, none⟩) 257 257, .int .i64 p, .int .i64 k, x10, x11, x12, x13, x14, x15, x16, x17, x18, x19, x20, x21, x22, x23, x24, x25, x26, x27, x28, x29, x30, x31, x32, x33, x34, x35, x36, x37, x38, x39, x40, x41, x42, x43, x44, x45, x46, x47, x48, x49, x50, x51, x52, x53, x54, x55, x56, x57, x58, x59, x60, x61, x62, x63, x64, x65, x66, x67, x68, x69], defers := [] } w :=
 .inr <| .inr <| .inr ⟨rfl, k, p, l, l', x5, x6, x10, x11, x12, x13, x14, x15, x16, x17, x18, x19, x20, x21, x22, x23, x24, x25, x26, x27, x28, x29, x30, x31, x32, x33, x34, x35, x36, x37, x38, x39, x40, x41, x42, x43, x44, x45, x46, x47, x48, x49, x50, x51, x52, x53, x54, x55, x56, x57, x58, x59, x60, x61, x62, x63, x64, x65, x66, x67, x68, x69, rfl, h0, h1⟩
def muS (lab : Nat) (a : Act) (_ : World) : Nat := if lab = 0 then 30000 - (intOf (a.tmps.getD 9 undef)).toNat else if lab = 3 then 20000 - (intOf (a.tmps.getD 8 undef)).toNat else if lab = 2 then 1 else 0
theorem ev_cell {g : Nat} {ev : Value} {w0 w : World} {l l' : List Int} (h : Mem g ev w0 w l l') : w.cell? ⟨0, 0, none⟩ = some ev := h.glob.2
set_option maxRecDepth 100000 in
set_option maxHeartbeats 4000000 in
theorem short_any (ev : Value) (s : ByteArray) (w : World) (hgl : Glob w ev) (h1 : 1 ≤ s.size) (hs : s.size ≤ 8000) :
  Calls Tryz.prog 57 #[.string s] w fun e w' => (∃ r v, e = .returned (.tuple #[.string r, v]) ∧ (v = .nilIface ∨ v = ev) ∧ r.size ≤ 8000 ∧ ∀ b, Good s b → r = b ∧ v = .nilIface) ∧ Below w.heap.size w w' := by
 obtain ⟨i0, hi, hz0, hz1, hz2⟩ := info_parts In.Tryz.infoI2
 obtain ⟨g, hg⟩ : ∃ g, g = w.heap.size := ⟨_, rfl⟩
 have HBE := hideP hg.symm
 have HVG : Hid (0 < g) := by rw [hg]; exact hgl.1
 have HI0 : Hid (IsI (w.alloc (.cells #[.int .i64 0, .int .i64 0, .int .i64 0, .int .i64 0] 63)) g 63 [0, 0, 0, 0]) := by rw [hg]; exact heap_alloc_new w _
 have HL0 : Hid (Below g w (w.alloc (.cells #[.int .i64 0, .int .i64 0, .int .i64 0, .int .i64 0] 63))) := by rw [hg]; exact (Below.refl _ _).alloc (Nat.le_refl _) _
 have HG0 : Hid (Glob (w.alloc (.cells #[.int .i64 0, .int .i64 0, .int .i64 0, .int .i64 0] 63)) ev) := glob_keep hgl ((Below.refl _ _).alloc (Nat.le_refl _) _)
 have HZ0 : Hid ((w.alloc (.cells #[.int .i64 0, .int .i64 0, .int .i64 0, .int .i64 0] 63)).heap.size = g + 1) := by unfold Hid; rw [hg]; simp
 have HRD := hideP (fun (p : Int) (W : World) => read_any s p W (by unfold maxLen; omega))
 have HR1 := hideP (rdI_first h1)
 clear hgl h1 hg
 rw [HBE.out]
 go_enter Tryz.func57, Tryz.ntmps57
 go_wp2_with fail
 refine wp_scope_labels (JS s g ev w) muS ?_ ?_
 ·go_wp2_with (at_make; generalize hww : w.alloc (.cells #[.int .i64 0, .int .i64 0, .int .i64 0, .int .i64 0] 63) = wa at HI0 HL0 HG0 HZ0 ⊢; clear hww; refine wpList_make_full _ rfl (.const (.int .i64 257)) (.const (.int .i64 257)) 59 rfl wa.heap.size 2 i0 (.int .i64 0) 1 Tryz.underlying59 hi hz0 hz1 .i64 .i64 _ _ 257 rfl rfl (by omega) (by omega) (by rw [hz2]; omega) (by unfold maxLen; omega) (Nat.le_refl _) ?_; intro wm hown hgrow; have I0 := hideP (made_ints hown); have HBm := hideP ((Below.refl wa.heap.size wa).grown hgrow (Nat.le_refl _) (by simp)); clear hown hgrow)
  rw [HZ0.out] at I0 ⊢
  rw [HBE.out]
  have MT : Hid (Mem g ev w wm [0, 0, 0, 0] (List.replicate 257 0)) := ⟨HI0.out.below HBm.out (by rw [HZ0.out]; omega), rfl, I0.out, List.length_replicate .., HL0.out.trans (HBm.out.mono (by rw [HZ0.out]; omega)), glob_keep HG0.out HBm.out⟩
  have HST := hideP (rdI_step HR1.out (fun b _ => four_le b 0 (by omega)))
  go_step3
  go_wp2_with fail
  refine (HRD.out 1 _).mono ?_
  rintro e w2 ⟨rfl, hw⟩
  subst w2
  obtain ⟨⟨y, q, c⟩, hrd⟩ : ∃ x, x = rd s 1 := ⟨_, rfl⟩
  rw [show rd s ((1 : Nat) : Int) = rd s 1 from rfl, ← hrd] at HST
  rw [← hrd]
  clear hrd HI0 HL0 HG0 I0 HBm HR1
  dsimp only at HST ⊢
  have cy := MT.out.told.cell (j := 0) (by decide)
  have fy := MT.out.told.frozen 0
  have MS := hideP (MT.out.setT HVG.out 0 y)
  by_cases hc : c = 0
  ·rw [errV_yes hc]
   have R2 := hideP ((HST.out.1 hc).1)
   have Y2 := hideP (head_next (head_none s [0, 0, 0, 0]) (by decide) (HST.out.1 hc).2)
   clear HST hc
   go_wp2_with fail
   go_step3
   exact JS0 s g ev w _ 1 q _ _ _ _ _ _ _ _ _ _ _ _ _ _ _ _ _ _ _ _ _ _ _ _ _ _ _ _ _ _ _ _ _ _ _ _ _ _ _ _ _ _ _ _ _ _ _ _ _ _ _ _ _ _ _ _ _ _ _ _ _ _ _ _ (by omega) (by omega) R2.out Y2.out rfl MS.out
  ·rw [errV_no hc]
   have HNO := hideP (HST.out.2 hc)
   clear HST
   go_wp2_with fail
   go_step3
   exact JS1 s g ev w _ _ _ _ _ _ _ _ _ _ _ _ _ _ _ _ _ _ _ _ _ _ _ _ _ _ _ _ _ _ _ _ _ _ _ _ _ _ _ _ _ _ _ _ _ _ _ _ _ _ _ _ _ _ _ _ _ _ _ _ _ _ _ _ _ _ _ HNO.out MS.out
 ·intro lab a' w' hJ
  rcases hJ with ⟨rfl, k, p, l, l', x5, x6, x10, x11, x12, x13, x14, x15, x16, x17, x18, x19, x20, x21, x22, x23, x24, x25, x26, x27, x28, x29, x30, x31, x32, x33, x34, x35, x36, x37, x38, x39, x40, x41, x42, x43, x44, x45, x46, x47, x48, x49, x50, x51, x52, x53, x54, x55, x56, x57, x58, x59, x60, x61, x62, x63, x64, x65, x66, x67, x68, x69, rfl, h0, h1, h2, h3, h4, h5⟩ | ⟨rfl, k, p, l, l', x5, x6, x10, x11, x12, x13, x14, x15, x16, x17, x18, x19, x20, x21, x22, x23, x24, x25, x26, x27, x28, x29, x30, x31, x32, x33, x34, x35, x36, x37, x38, x39, x40, x41, x42, x43, x44, x45, x46, x47, x48, x49, x50, x51, x52, x53, x54, x55, x56, x57, x58, x59, x60, x61, x62, x63, x64, x65, x66, x67, x68, x69, rfl, h0, hkp, h1, h2, h3⟩ | ⟨rfl, k, p, l, l', x5, x6, x10, x11, x12, x13, x14, x15, x16, x17, x18, x19, x20, x21, x22, x23, x24, x25, x26, x27, x28, x29, x30, x31, x32, x33, x34, x35, x36, x37, x38, x39, x40, x41, x42, x43, x44, x45, x46, x47, x48, x49, x50, x51, x52, x53, x54, x55, x56, x57, x58, x59, x60, x61, x62, x63, x64, x65, x66, x67, x68, x69, rfl, h0, h1, h2⟩ | ⟨rfl, k, p, l, l', x5, x6, x10, x11, x12, x13, x14, x15, x16, x17, x18, x19, x20, x21, x22, x23, x24, x25, x26, x27, x28, x29, x30, x31, x32, x33, x34, x35, x36, x37, x38, x39, x40, x41, x42, x43, x44, x45, x46, x47, x48, x49, x50, x51, x52, x53, x54, x55, x56, x57, x58, x59, x60, x61, x62, x63, x64, x65, x66, x67, x68, x69, rfl, h0, h1⟩
  ·refine ⟨_, rfl, ?_⟩
   have M0 := hideP h5
   have HST := hideP (rdI_step h2 (fun b _ => four_le b k (by omega)))
   have H3 := hideP h3
   have H4 := hideP h4
   have hk4 : (k : Int) < 4 := by omega
   clear h2 h3 h4 h5 HI0 HL0 HG0 HR1
   go_wp2_with fail
   refine (HRD.out ((p : Nat) : Int) _).mono ?_
   rintro e w2 ⟨rfl, hw⟩
   subst w2
   obtain ⟨⟨x, q, c⟩, hrd⟩ : ∃ x, x = rd s ((p : Nat) : Int) := ⟨_, rfl⟩
   rw [← hrd] at HST ⊢
   clear hrd
   dsimp only at HST ⊢
   have cy := M0.out.told.cell (j := k) (by have := M0.out.four; omega)
   have fy := M0.out.told.frozen k
   obtain ⟨old, hold⟩ : ∃ x : Int, x = l[k]'(by have := M0.out.four; omega) := ⟨_, rfl⟩
   rw [← hold] at cy
   clear hold
   have MT := hideP (M0.out.setT HVG.out k x)
   by_cases hc : c = 0
   ·rw [errV_yes hc]
    have R2 := hideP ((HST.out.1 hc).1)
    have Y2 := hideP (head_next H3.out (by have := M0.out.four; omega) (HST.out.1 hc).2)
    clear HST hc
    by_cases hk : k + 1 < 4
    ·have hk' : (k : Int) + 1 < 4 := by omega
     go_wp2_with fail
     go_step3
     exact ⟨JS0 s g ev w _ (k + 1) q _ _ _ _ _ _ _ _ _ _ _ _ _ _ _ _ _ _ _ _ _ _ _ _ _ _ _ _ _ _ _ _ _ _ _ _ _ _ _ _ _ _ _ _ _ _ _ _ _ _ _ _ _ _ _ _ _ _ _ _ _ _ _ _ (by omega) (by omega) R2.out Y2.out H4.out MT.out, by simp [muS, intOf] <;> omega⟩
    ·obtain rfl : k = 3 := by omega
     have HHF := Y2
     have HTF : Hid (TabF s 0 l') := by rw [H4.out]; exact tab_none s
     have HRI : Hid (RdI s (4 + 2 * 0) q) := R2.out
     have h3x : (l.set 3 x)[3]? = some x := List.getElem?_set_self (by have := M0.out.four; omega)
     have H3X := hideP h3x
     clear h3x
     by_cases hle : x ≤ 0
     ·have HAL := hideP (tab_end HTF.out HHF.out HRI.out H3X.out (by omega))
      go_wp2_with fail
      go_step3
      go_wp2_with fail
      go_step3
      exact ⟨JS2 s g ev w _ 0 q _ _ _ _ _ _ _ _ _ _ _ _ _ _ _ _ _ _ _ _ _ _ _ _ _ _ _ _ _ _ _ _ _ _ _ _ _ _ _ _ _ _ _ _ _ _ _ _ _ _ _ _ _ _ _ _ _ _ _ _ _ _ _ _ HRI.out.1 HAL.out MT.out, by simp [muS, intOf] <;> omega⟩
     ·have hle' : decide (x ≤ 0) = false := by simp; omega
      have HLT := hideP (tab_lt (m := 0) HHF.out H3X.out (by omega))
      have hqz := HRI.out.1
      go_wp2_with fail
      go_step3
      go_wp2_with fail
      generalize hww : w'.setCell ⟨g, 3, none⟩ (.int .i64 x) = wt at MT ⊢
      clear hww cy fy M0
      have HST := hideP (rdI_step HRI.out (tab_len HLT.out).1)
      have HON := hideP (fun h => rd_on (s := s) (a := q) h)
      refine (HRD.out ((q : Nat) : Int) _).mono ?_
      rintro e w2 ⟨rfl, hw⟩
      subst w2
      obtain ⟨⟨y, q2, c⟩, hrd⟩ : ∃ x, x = rd s ((q : Nat) : Int) := ⟨_, rfl⟩
      rw [← hrd] at HST HON ⊢
      clear hrd
      dsimp only at HST HON ⊢
      by_cases hc : c = 0
      ·rw [errV_yes hc]
       have R2 := hideP ((HST.out.1 hc).1)
       have Y2 := hideP ((HST.out.1 hc).2)
       have O2 := HON.out hc
       have hq2 := R2.out.1
       clear HST HON hc
       by_cases hy0 : y < 0
       ·have HNO := hideP (tab_sym HLT.out Y2.out (.inl hy0))
        go_wp2_with fail
        go_step3
        exact ⟨JS1 s g ev w _ _ _ _ _ _ _ _ _ _ _ _ _ _ _ _ _ _ _ _ _ _ _ _ _ _ _ _ _ _ _ _ _ _ _ _ _ _ _ _ _ _ _ _ _ _ _ _ _ _ _ _ _ _ _ _ _ _ _ _ _ _ _ _ _ _ _ HNO.out MT.out, by simp [muS, intOf] <;> omega⟩
       ·have hy0' : decide (y < 0) = false := by simp; omega
        by_cases hy1 : 257 ≤ y
        ·have HNO := hideP (tab_sym HLT.out Y2.out (.inr hy1))
         go_wp2_with fail
         go_step3
         exact ⟨JS1 s g ev w _ _ _ _ _ _ _ _ _ _ _ _ _ _ _ _ _ _ _ _ _ _ _ _ _ _ _ _ _ _ _ _ _ _ _ _ _ _ _ _ _ _ _ _ _ _ _ _ _ _ _ _ _ _ _ _ _ _ _ _ _ _ _ _ _ _ _ HNO.out MT.out, by simp [muS, intOf] <;> omega⟩
        ·have hy1' : decide (257 ≤ y) = false := by simp; omega
         obtain ⟨yn, rfl⟩ := Int.eq_ofNat_of_zero_le (show 0 ≤ y by omega)
         have hyn : yn < 257 := by omega
         have hyi : (yn : Int) < 257 := by omega
         go_wp2_with fail
         have HST := hideP (rdI_step R2.out (tab_len HLT.out).2)
         have HON := hideP (fun h => rd_on (s := s) (a := q2) h)
         refine (HRD.out ((q2 : Nat) : Int) _).mono ?_
         rintro e w3 ⟨rfl, hw⟩
         subst w3
         obtain ⟨⟨z, q3, c3⟩, hrd⟩ : ∃ x, x = rd s ((q2 : Nat) : Int) := ⟨_, rfl⟩
         rw [← hrd] at HST HON ⊢
         clear hrd
         dsimp only at HST HON ⊢
         have cy := MT.out.lens.cell (j := yn) (by have := MT.out.many; omega)
         have fy := MT.out.lens.frozen yn
         have MS := hideP (MT.out.setL HVG.out yn z)
         obtain ⟨old, hold⟩ : ∃ x : Int, x = l'[yn]'(by have := MT.out.many; omega) := ⟨_, rfl⟩
         rw [← hold] at cy
         clear hold
         by_cases hc : c3 = 0
         ·rw [errV_yes hc]
          have R3 := hideP ((HST.out.1 hc).1)
          have Y3 := hideP ((HST.out.1 hc).2)
          have O3 := HON.out hc
          have hq3 := R3.out.1
          have TN := hideP (tab_next HTF.out HLT.out Y2.out Y3.out)
          clear HST HON hc
          go_wp2_with fail
          go_step3
          exact ⟨JS3 s g ev w _ (0 + 1) q3 _ _ _ _ _ _ _ _ _ _ _ _ _ _ _ _ _ _ _ _ _ _ _ _ _ _ _ _ _ _ _ _ _ _ _ _ _ _ _ _ _ _ _ _ _ _ _ _ _ _ _ _ _ _ _ _ _ _ _ _ _ _ _ _ (by rw [show 4 + 2 * (0 + 1) = 4 + 2 * 0 + 1 + 1 by omega]; exact R3.out) (by omega) HHF.out TN.out MS.out, by simp [muS, intOf] <;> omega⟩
         ·rw [errV_no hc]
          have HNO := hideP (HST.out.2 hc)
          clear HST HON
          go_wp2_with fail
          go_step3
          exact ⟨JS1 s g ev w _ _ _ _ _ _ _ _ _ _ _ _ _ _ _ _ _ _ _ _ _ _ _ _ _ _ _ _ _ _ _ _ _ _ _ _ _ _ _ _ _ _ _ _ _ _ _ _ _ _ _ _ _ _ _ _ _ _ _ _ _ _ _ _ _ _ _ HNO.out MS.out, by simp [muS, intOf] <;> omega⟩
      ·rw [errV_no hc]
       have HNO := hideP (HST.out.2 hc)
       clear HST HON
       go_wp2_with fail
       go_step3
       exact ⟨JS1 s g ev w _ _ _ _ _ _ _ _ _ _ _ _ _ _ _ _ _ _ _ _ _ _ _ _ _ _ _ _ _ _ _ _ _ _ _ _ _ _ _ _ _ _ _ _ _ _ _ _ _ _ _ _ _ _ _ _ _ _ _ _ _ _ _ _ _ _ _ HNO.out MT.out, by simp [muS, intOf] <;> omega⟩
   ·rw [errV_no hc]
    have HNO := hideP (HST.out.2 hc)
    clear HST
    go_wp2_with fail
    go_step3
    exact ⟨JS1 s g ev w _ _ _ _ _ _ _ _ _ _ _ _ _ _ _ _ _ _ _ _ _ _ _ _ _ _ _ _ _ _ _ _ _ _ _ _ _ _ _ _ _ _ _ _ _ _ _ _ _ _ _ _ _ _ _ _ _ _ _ _ _ _ _ _ _ _ _ HNO.out MT.out, by simp [muS, intOf] <;> omega⟩
  ·refine ⟨_, rfl, ?_⟩
   have HRI := hideP h0
   have HHF := hideP h1
   have HTF := hideP h2
   have MT := hideP h3
   clear h0 h1 h2 h3 HI0 HL0 HG0 HR1
   have hqz := HRI.out.1
   have cy3 := MT.out.told.cell (j := 3) (by have := MT.out.four; omega)
   obtain ⟨x3, hx3⟩ : ∃ x : Int, x = l[3]'(by have := MT.out.four; omega) := ⟨_, rfl⟩
   rw [← hx3] at cy3
   have H3X : Hid (l[3]? = some x3) := by rw [hx3]; exact List.getElem?_eq_getElem _
   clear hx3
   by_cases hle : x3 ≤ (k : Int)
   ·have HAL := hideP (tab_end HTF.out HHF.out HRI.out H3X.out hle)
    go_wp2_with fail
    go_step3
    exact ⟨JS2 s g ev w _ k p _ _ _ _ _ _ _ _ _ _ _ _ _ _ _ _ _ _ _ _ _ _ _ _ _ _ _ _ _ _ _ _ _ _ _ _ _ _ _ _ _ _ _ _ _ _ _ _ _ _ _ _ _ _ _ _ _ _ _ _ _ _ _ _ HRI.out.1 HAL.out MT.out, by simp [muS, intOf] <;> omega⟩
   ·have hle' : decide (x3 ≤ (k : Int)) = false := by simp; omega
    have HLT := hideP (tab_lt (m := k) HHF.out H3X.out (by omega))
    go_wp2_with fail
    clear cy3
    have HST := hideP (rdI_step HRI.out (tab_len HLT.out).1)
    have HON := hideP (fun h => rd_on (s := s) (a := p) h)
    refine (HRD.out ((p : Nat) : Int) _).mono ?_
    rintro e w2 ⟨rfl, hw⟩
    subst w2
    obtain ⟨⟨y, q2, c⟩, hrd⟩ : ∃ x, x = rd s ((p : Nat) : Int) := ⟨_, rfl⟩
    rw [← hrd] at HST HON ⊢
    clear hrd
    dsimp only at HST HON ⊢
    by_cases hc : c = 0
    ·rw [errV_yes hc]
     have R2 := hideP ((HST.out.1 hc).1)
     have Y2 := hideP ((HST.out.1 hc).2)
     have O2 := HON.out hc
     have hq2 := R2.out.1
     clear HST HON hc
     by_cases hy0 : y < 0
     ·have HNO := hideP (tab_sym HLT.out Y2.out (.inl hy0))
      go_wp2_with fail
      go_step3
      exact ⟨JS1 s g ev w _ _ _ _ _ _ _ _ _ _ _ _ _ _ _ _ _ _ _ _ _ _ _ _ _ _ _ _ _ _ _ _ _ _ _ _ _ _ _ _ _ _ _ _ _ _ _ _ _ _ _ _ _ _ _ _ _ _ _ _ _ _ _ _ _ _ _ HNO.out MT.out, by simp [muS, intOf] <;> omega⟩
     ·have hy0' : decide (y < 0) = false := by simp; omega
      by_cases hy1 : 257 ≤ y
      ·have HNO := hideP (tab_sym HLT.out Y2.out (.inr hy1))
       go_wp2_with fail
       go_step3
       exact ⟨JS1 s g ev w _ _ _ _ _ _ _ _ _ _ _ _ _ _ _ _ _ _ _ _ _ _ _ _ _ _ _ _ _ _ _ _ _ _ _ _ _ _ _ _ _ _ _ _ _ _ _ _ _ _ _ _ _ _ _ _ _ _ _ _ _ _ _ _ _ _ _ HNO.out MT.out, by simp [muS, intOf] <;> omega⟩
      ·have hy1' : decide (257 ≤ y) = false := by simp; omega
       obtain ⟨yn, rfl⟩ := Int.eq_ofNat_of_zero_le (show 0 ≤ y by omega)
       have hyn : yn < 257 := by omega
       have hyi : (yn : Int) < 257 := by omega
       go_wp2_with fail
       have HST := hideP (rdI_step R2.out (tab_len HLT.out).2)
       have HON := hideP (fun h => rd_on (s := s) (a := q2) h)
       refine (HRD.out ((q2 : Nat) : Int) _).mono ?_
       rintro e w3 ⟨rfl, hw⟩
       subst w3
       obtain ⟨⟨z, q3, c3⟩, hrd⟩ : ∃ x, x = rd s ((q2 : Nat) : Int) := ⟨_, rfl⟩
       rw [← hrd] at HST HON ⊢
       clear hrd
       dsimp only at HST HON ⊢
       have cy := MT.out.lens.cell (j := yn) (by have := MT.out.many; omega)
       have fy := MT.out.lens.frozen yn
       have MS := hideP (MT.out.setL HVG.out yn z)
       obtain ⟨old, hold⟩ : ∃ x : Int, x = l'[yn]'(by have := MT.out.many; omega) := ⟨_, rfl⟩
       rw [← hold] at cy
       clear hold
       by_cases hc : c3 = 0
       ·rw [errV_yes hc]
        have R3 := hideP ((HST.out.1 hc).1)
        have Y3 := hideP ((HST.out.1 hc).2)
        have O3 := HON.out hc
        have hq3 := R3.out.1
        have TN := hideP (tab_next HTF.out HLT.out Y2.out Y3.out)
        clear HST HON hc
        go_wp2_with fail
        go_step3
        exact ⟨JS3 s g ev w _ (k + 1) q3 _ _ _ _ _ _ _ _ _ _ _ _ _ _ _ _ _ _ _ _ _ _ _ _ _ _ _ _ _ _ _ _ _ _ _ _ _ _ _ _ _ _ _ _ _ _ _ _ _ _ _ _ _ _ _ _ _ _ _ _ _ _ _ _ (by rw [show 4 + 2 * (k + 1) = 4 + 2 * k + 1 + 1 by omega]; exact R3.out) (by omega) HHF.out TN.out MS.out, by simp [muS, intOf] <;> omega⟩
       ·rw [errV_no hc]
        have HNO := hideP (HST.out.2 hc)
        clear HST HON
        go_wp2_with fail
        go_step3
        exact ⟨JS1 s g ev w _ _ _ _ _ _ _ _ _ _ _ _ _ _ _ _ _ _ _ _ _ _ _ _ _ _ _ _ _ _ _ _ _ _ _ _ _ _ _ _ _ _ _ _ _ _ _ _ _ _ _ _ _ _ _ _ _ _ _ _ _ _ _ _ _ _ _ HNO.out MS.out, by simp [muS, intOf] <;> omega⟩
    ·rw [errV_no hc]
     have HNO := hideP (HST.out.2 hc)
     clear HST HON
     go_wp2_with fail
     go_step3
     exact ⟨JS1 s g ev w _ _ _ _ _ _ _ _ _ _ _ _ _ _ _ _ _ _ _ _ _ _ _ _ _ _ _ _ _ _ _ _ _ _ _ _ _ _ _ _ _ _ _ _ _ _ _ _ _ _ _ _ _ _ _ _ _ _ _ _ _ _ _ _ _ _ _ HNO.out MT.out, by simp [muS, intOf] <;> omega⟩
  ·refine ⟨_, rfl, ?_⟩
   have MT := hideP h2
   have HAL := hideP h1
   obtain ⟨x0, x1, x2, x3, hl⟩ := list4 h2.four
   subst hl
   have hpz := h0
   have hpi : (p : Int) ≤ (s.size : Int) := by omega
   clear h0 h1 h2 HI0 HL0 HG0 HR1
   have CB : Hid (∀ W, Below w'.heap.size w' W → W.cell? ⟨g, 0, none⟩ = some (.int .i64 x0) ∧ W.cell? ⟨g, 1, none⟩ = some (.int .i64 x1) ∧ W.cell? ⟨g, 2, none⟩ = some (.int .i64 x2) ∧ W.cell? ⟨g, 3, none⟩ = some (.int .i64 x3)) := fun W h =>
    four ((h.block g MT.out.told.lt).trans MT.out.told)
   have HBK : Hid (∀ W, Below w'.heap.size w' W → Calls Tryz.prog 89 #[.agg #[.int .i64 x0, .int .i64 x1, .int .i64 x2, .int .i64 x3], .slice (some ⟨g + 1, 0, none⟩) 257 257, .string (s.extract p s.size)] W fun e w'' => (∃ r v, e = .returned (.tuple #[.string r, v]) ∧ (v = .nilIface ∨ v = ev) ∧ r.size ≤ 8000 ∧ ∀ t b, Good t b → l' = up (lenS b) → x1 = ((bwtA b : Nat) : Int) → x2 = ((symS b).length : Int) → s.extract p s.size = bitsS b → r = b ∧ v = .nilIface) ∧ Below W.heap.size W w'') := fun W h =>
    back_any x0 x1 x2 x3 l' (some ⟨g + 1, 0, none⟩) 257 257 (s.extract p s.size) ev W ((MT.out.lens.below h MT.out.lens.lt).ints (Nat.lt_of_lt_of_le MT.out.lens.lt h.size)) MT.out.many.symm (by decide) (by have := ext_size s p; omega) (glob_keep MT.out.glob h).1 (glob_keep MT.out.glob h).2
   have KW := hideP (Below.refl w'.heap.size w')
   go_upto_region 17 with fail
   have hS0 := CB.out _ (KW.out.drew)
   go_region_held3 (fun W => W.cell? ⟨g, 0, none⟩ = some (.int .i64 x0) ∧ W.cell? ⟨g, 1, none⟩ = some (.int .i64 x1) ∧ W.cell? ⟨g, 2, none⟩ = some (.int .i64 x2) ∧ W.cell? ⟨g, 3, none⟩ = some (.int .i64 x3))
    (first | assumption | exact CB.out _ (low_keep KW.out.drew LB.out))
    (first | (go_at_call 89; (with_reducible refine (HBK.out _ ?_).mono ?_); (· exact KW.out.drew); rintro e wb ⟨⟨r, v, rfl, hv, hrz, hr⟩, hbb⟩; have LB := hideP hbb; have HV := hideP hv; have HR := hideP hr; clear hbb hv hr))
   all_goals (try go_wp2_with fail)
   all_goals (rw [toLabel_ret])
   all_goals go_ret2
   all_goals (refine ⟨⟨r, v, rfl, HV.out, hrz, fun b hb => ?_⟩, MT.out.low.trans ((low_keep KW.out.drew LB.out).mono (by rw [← HBE.out]; exact MT.out.low.size))⟩)
   all_goals (obtain ⟨q1, q2, q3, q4⟩ := HAL.out b hb)
   all_goals (exact HR.out s b hb q1 (Option.some.inj q2) (Option.some.inj q3) q4)
  ·refine ⟨_, rfl, ?_⟩
   have HNO := hideP h0
   have MT := hideP h1
   have gcell := ev_cell h1
   clear h0 h1 HI0 HL0 HG0 HR1
   go_wp2_with fail
   go_quiet (fail)
   go_wp2_with fail
   rw [toLabel_ret]
   go_ret2
   exact ⟨⟨_, _, rfl, .inr rfl, by decide, fun b hb => absurd hb (HNO.out b)⟩, below_drewN MT.out.low _⟩
end Go.Proofs.YthbpenanelbbcaaGreatDoor.Up


/- errors.Is of an error and itself. -/
namespace Go.Proofs.YthbpenanelbbcaaGreatDoor.Up
open Go.RowKit Go.Extern.Stop Go.Stop Go.Extern
theorem typeOfE (v : Value) (w : World) : (ReflectliteType.typeOf #[.iface 189 v]).run Tryz.prog w = .ok (.iface 110 (.agg #[.pointer (some ⟨1, 189, none⟩)])) w := by kernel_rfl
theorem methodCmp (h : Value) (w : World) : (Go.method 324 110 (.agg #[h]) "Comparable").run Tryz.prog w = .ok (189, .agg #[h]) w := by kernel_rfl
def cmpF : Array Value → Sem Value := ReflectliteType.method fun t => do Rtype.noPackHeld "Comparable" t; pure (.bool (← typeInfo t).comparable)
theorem cmpE (w : World) : (cmpF #[.agg #[.pointer (some ⟨1, 189, none⟩)]]).run Tryz.prog w = .ok (.bool true) w := by kernel_rfl
theorem infoE : (Tryz.prog.info? 189).map (·.comparable) = some true := by kernel_rfl
theorem infoS : (Tryz.prog.info? 213).isSome = true := by kernel_rfl
theorem eqE (a : Addr) (u : World) : Sem.run Tryz.prog (binOp BinOp.eql 40 (.iface 189 (.pointer (some a))) (.iface 189 (.pointer (some a)))) u = .ok (.bool true) u := by
 cases h1 : Tryz.prog.info? 189 with
 | none => have := infoE; rw [h1] at this; cases this
 | some i =>
  cases h2 : Tryz.prog.info? 213 with
  | none => have := infoS; rw [h2] at this; cases this
  | some j =>
   have hc : i.comparable = true := by have := infoE; rw [h1] at this; simpa using this
   exact run_eql_iface_ptr_same u a Tryz.underlying40 Tryz.underlying189 h1 hc h2
set_option maxRecDepth 100000 in
set_option maxHeartbeats 1000000 in
theorem is_same (a : Addr) (w : World) :
  Calls Tryz.prog 59 #[.iface 189 (.pointer (some a)), .iface 189 (.pointer (some a)), .bool true] w fun e w' => e = .returned (.bool true) ∧ w' = w := by
 have heq := eqE a
 go_enter Tryz.func59, Tryz.ntmps59
 go_wp2
 refine wp_loop_rounds 1 ?_
 rw [rounds_succ]
 go_wp2
 go_ret
 exact ⟨rfl, rfl⟩
set_option maxRecDepth 100000 in
set_option maxHeartbeats 1000000 in
theorem is_self (a : Addr) (w : World) :
  Calls Tryz.prog 28 #[.iface 189 (.pointer (some a)), .iface 189 (.pointer (some a))] w fun e w' => e = .returned (.bool true) ∧ Below w.heap.size w w' := by
 have hG := @run_callFunc_extern Tryz.prog 58 _ ReflectliteType.typeOf Tryz.func58 (by kernel_rfl) (by kernel_rfl) (by kernel_rfl) (by kernel_rfl)
 have hX := @run_callFunc_extern Tryz.prog 189 _ cmpF Tryz.func189 (by kernel_rfl) (by kernel_rfl) (by kernel_rfl) (by kernel_rfl)
 have f1 := typeOfE
 have f2 := methodCmp
 have f3 := cmpE
 go_enter Tryz.func28, Tryz.ntmps28
 go_wp2_with fail
 refine (is_same a _).mono ?_
 rintro e w1 ⟨rfl, hw⟩
 subst w1
 go_wp2_with fail
 go_ret
 exact ⟨rfl, Below.refl _ _⟩
end Go.Proofs.YthbpenanelbbcaaGreatDoor.Up


/- The walk of the law FnExactBlockUnpack out of the contracts. -/
namespace Go.Proofs.YthbpenanelbbcaaGreatDoor.Up
open Go.RowKit
open Go.Proofs.YthbpenanelbbcaaGreatDoor.Se (outV unsealV)
theorem unpack_all (a : Addr) (s : ByteArray) (w : World) (hs : s.size ≤ 1048576) (hg : Glob w (.iface 189 (.pointer (some a)))) :
  Calls Tryz.prog 7 #[.string s] w fun e w' => e = .returned (ansU s) ∧ Below w.heap.size w w' :=
 unpack_impl _ _ (fun t W h1 h2 h3 => short_any _ t W h1 h2 h3) (fun W => is_self a W) s w hs hg
theorem ansU_form (s : ByteArray) : ∃ t c, ansU s = .agg #[.string t, .int .i64 0, .int .i64 c] := by
 rcases unseal_case s with ⟨t, h, _⟩ | ⟨c, h0, h⟩
 ·rw [ansU_yes h]
  unfold ansT outV
  split <;> exact ⟨_, _, rfl⟩
 ·rw [ansU_no h0 h]
  exact ⟨_, _, rfl⟩
end Go.Proofs.YthbpenanelbbcaaGreatDoor.Up
namespace Go.Proofs.YthbpenanelbbcaaGreatDoor.fnExactBlockUnpack
open Go.RowKit
open Go.Proofs.YthbpenanelbbcaaGreatDoor.Up
end Go.Proofs.YthbpenanelbbcaaGreatDoor.fnExactBlockUnpack


/- The walk of impl.PiecesOf. -/
namespace Go.Proofs.YthbpenanelbbcaaGreatDoor.Pk
open Go.RowKit
open Go.Proofs.YthbpenanelbbcaaGreatDoor.St (OwnS IsS Strs made_strs srow)
open Go.Proofs.YthbpenanelbbcaaGreatDoor.Bk (blocksR blocksR_length blocks_impl blks blks_length cnt)
noncomputable def piecesR (s : ByteArray) (size : Int) : List ByteArray := (blocksR s size).map packB
theorem piecesR_length (s : ByteArray) (size : Int) : (piecesR s size).length ≤ 64 := by
 unfold piecesR
 rw [List.length_map]
 exact blocksR_length s size
noncomputable def midP (l : List ByteArray) (k : Nat) : List ByteArray := (l.take k).map packB ++ List.replicate (l.length - k) ⟨#[]⟩
theorem midP_length (l : List ByteArray) (k : Nat) (h : k ≤ l.length) : (midP l k).length = l.length := by
 unfold midP
 rw [List.length_append, List.length_map, List.length_take, List.length_replicate]
 omega
theorem midP_next (l : List ByteArray) (k : Nat) (h : k < l.length) : (midP l k).set k (packB l[k]) = midP l (k + 1) := by
 have hl : ((l.take k).map packB).length = k := by rw [List.length_map, List.length_take]; omega
 unfold midP
 rw [List.set_append, if_neg (by omega), hl, Nat.sub_self, show l.length - k = (l.length - (k + 1)) + 1 by omega, List.replicate_succ, List.set_cons_zero, List.take_add_one, List.getElem?_eq_getElem h, List.map_append, List.append_assoc]
 rfl
theorem midP_zero (l : List ByteArray) : midP l 0 = List.replicate l.length ⟨#[]⟩ := by
 unfold midP
 simp
theorem midP_all (l : List ByteArray) : midP l l.length = l.map packB := by
 unfold midP
 rw [List.take_length, Nat.sub_self, List.replicate_zero, List.append_nil]
theorem owns_of {W : World} {g base n : Nat} {l : List ByteArray} (h : IsS W g 9 l) (hg : base ≤ g) (hn : l.length = n) (hm : n ≤ 1048576) : OwnS W base (.slice (some ⟨g, 0, none⟩) n n) l := by
 subst hn
 refine ⟨by simp, .inr ⟨g, l.length, srow l, rfl, hg, h, Nat.le_refl _, by unfold maxLen; omega, by simp [srow], ?_⟩⟩
 unfold srow
 rw [List.take_of_length_le (by simp)]
theorem strs_some {w : World} {B : Nat} {a : Option Addr} {l : List ByteArray} (h : Strs w B a l) (h0 : 0 < l.length) : ∃ b off, a = some ⟨b, off, none⟩ ∧ b < B ∧ ∀ j (h : j < l.length), w.cell? ⟨b, off + j, none⟩ = some (.string l[j]) := by
 rcases h with h | h
 ·subst h
  simp at h0
 ·exact h
theorem blks_size (s : ByteArray) (k : Nat) : ∀ n, ∀ x ∈ blks s k n, x.size ≤ k
 | 0, x, h => absurd h (List.not_mem_nil)
 | n + 1, x, h => by
  rw [blks] at h
  rcases List.mem_append.1 h with h | h
  ·exact blks_size s k n x h
  ·rw [List.mem_singleton.1 h, ByteArray.size_extract]
   omega
theorem blocks_size (s : ByteArray) (size : Int) : ∀ x ∈ blocksR s size, x.size ≤ 48 := by
 intro x hx
 unfold blocksR at hx
 split at hx
 ·rename_i h
  have h := of_decide_eq_true h
  have := blks_size s size.toNat _ x hx
  omega
 ·exact absurd hx (List.not_mem_nil)
set_option maxRecDepth 100000 in
set_option maxHeartbeats 1000000 in
theorem pieces_impl (s : ByteArray) (size : Int) (w : World) (hs : s.size ≤ 1048576) :
  Calls Tryz.prog 15 #[.string s, .int .i64 size] w fun e w' => ∃ v, e = .returned v ∧ OwnS w' w.heap.size v (piecesR s size) ∧ Below w.heap.size w w' := by
 obtain ⟨i0, hi0, hz0, hz1, hz2⟩ := info_parts St.Tryz.infoS9
 have HB := hideP (blocks_impl s size w hs)
 have HL := blocksR_length s size
 have HSZ := hideP (blocks_size s size)
 have HR : Hid (piecesR s size = (blocksR s size).map packB) := rfl
 rw [HR.out]
 clear HR
 generalize blocksR s size = l at HB HL HSZ ⊢
 go_enter Tryz.func15, Tryz.ntmps15
 go_wp2_with fail
 refine HB.out.mono ?_
 rintro e w1 ⟨v1, rfl, ho1, hb1⟩
 obtain ⟨a, cap, hv, _, hi1⟩ := ho1.strs
 obtain ⟨n, hn⟩ : ∃ n, n = l.length := ⟨_, rfl⟩
 rw [← hn] at hv HL
 subst hv
 have HN := hideP hn
 have S1 := hideP hi1
 have B1 := hideP hb1
 have hz1' := hb1.size
 clear hn hi1 hb1 ho1
 go_wp2_with (at_make; refine wpList_make_full _ rfl (.tmp 13) (.tmp 13) 30 rfl w1.heap.size 9 i0 (.string ⟨#[]⟩) 1 Tryz.underlying30 hi0 hz0 hz1 .i64 .i64 _ _ n rfl rfl (by simp) (by simp) (by rw [hz2]; omega) (by unfold maxLen; omega) (Nat.le_refl _) ?_; intro w2 hown hgrow; have HI2 := hideP (made_strs hown); have HB2 := hideP ((Below.refl w1.heap.size w1).grown hgrow (Nat.le_refl _) (by simp)); clear hown hgrow)
 go_loopw [17, 7, 8] (fun iv _ _ wr => ∃ k : Nat, iv = .int .i64 k ∧ k ≤ n ∧ IsS wr w1.heap.size 9 (midP l k) ∧ Below w1.heap.size w1 wr) (fun iv _ _ _ => n - (intOf iv).toNat)
 case atStart => exact ⟨0, rfl, Nat.zero_le _, by rw [midP_zero, ← HN.out]; exact HI2.out, HB2.out⟩
 case round =>
  obtain ⟨k, rfl, hk, hsr, hbw⟩ := hrel
  have SR := hideP hsr
  have BW := hideP hbw
  have hzr := hbw.size
  clear hsr hbw
  by_cases hlt : k < n
  ·have hkl : k < l.length := by rw [← HN.out]; exact hlt
   obtain ⟨b, off, rfl, hb, hcl⟩ := strs_some (S1.out.below BW.out) (by omega)
   have ci := hcl k hkl
   have HNX := hideP (midP_next l k hkl)
   have hx := HSZ.out l[k] (List.getElem_mem hkl)
   have hpl : k < (midP l k).length := by rw [midP_length l k (by omega)]; exact hkl
   have HOLD := hideP (fun (W : World) (hW : IsS W w1.heap.size 9 (midP l k)) => hW.cell hpl)
   generalize l[k] = x at ci HNX hx
   generalize (midP l k)[k] = old at HOLD
   have hkn : (k : Int) < n := by omega
   have HP := hideP (fun W => pack_impl x W (by omega))
   generalize packB x = px at HP HNX
   clear hcl hkl hpl
   go_wp2_with fail
   refine (HP.out _).mono ?_
   rintro e w3 ⟨rfl, hb3⟩
   have S3 := hideP (SR.out.below hb3 SR.out.lt)
   have B3 := hideP (BW.out.trans (hb3.mono hzr))
   have c3 := HOLD.out w3 S3.out
   have f3 := S3.out.frozen k
   clear hb3
   go_wp2_with fail
   go_roundw
   case rel => exact ⟨k + 1, by go_num, by omega, by rw [← HNX.out]; exact S3.out.set k _, B3.out.setCell (by simp) _⟩
   case measure => simp [intOf]; omega
  ·obtain rfl : k = n := by omega
   have HE : Hid (IsS wr w1.heap.size 9 (l.map packB)) := by
    have := SR.out
    rw [HN.out, midP_all] at this
    exact this
   go_wp2_with fail
   go_ret
   exact ⟨_, rfl, owns_of HE.out hz1' (by rw [List.length_map]; exact HN.out.symm) (by omega), B1.out.trans (BW.out.mono hz1')⟩
end Go.Proofs.YthbpenanelbbcaaGreatDoor.Pk

