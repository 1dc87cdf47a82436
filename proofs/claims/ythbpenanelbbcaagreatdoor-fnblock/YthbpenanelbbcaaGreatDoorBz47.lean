/- Texts put together: SealMath, UnAns, BlMath, DrawBk3, UnSpec, UnRead, UnIs. -/
import Derived.Test.YthbpenanelbbcaaGreatDoorBz46
import Derived.Test.YthbpenanelbbcaaGreatDoorBz27
import Derived.Test.YthbpenanelbbcaaGreatDoorBz40
import Derived.Test.YthbpenanelbbcaaGreatDoorBz44
import Derived.Test.YthbpenanelbbcaaGreatDoorBz45
import Derived.Test.YthbpenanelbbcaaGreatDoorBz37
import Derived.Test.YthbpenanelbbcaaGreatDoorBz32
/- Plain mathematics of seals: the register's steps lose nothing, so that a text with one byte turned has another CRC; and a CRC goes on from text to text. -/
namespace Go.Proofs.YthbpenanelbbcaaGreatDoor.Se
def sealL (l : List UInt8) : List UInt8 := l ++ fourL (Cr.fin (Cr.crcL (Cr.fin 0) l))
theorem unseal_back (t : ByteArray) (ht : t.size ≤ 7996) : unsealV (sealV t) = outV t 0 0 := by
 have hs : sealV t = t ++ fourS (crcOf t) := by unfold sealV; rw [if_pos ht]
 have hz : (sealV t).size = t.size + 4 := by rw [hs]; simp [ByteArray.size_append, fourS_size]
 have hx : (sealV t).extract 0 ((sealV t).size - 4) = t := by
  rw [hz, hs, Nat.add_sub_cancel]
  exact ByteArray.extract_append_eq_left rfl
 unfold unsealV
 rw [if_neg (by omega), if_neg (by omega), hx, if_pos rfl]
end Go.Proofs.YthbpenanelbbcaaGreatDoor.Se


/- Plain mathematics of BlockUnpack: what it answers, whatever text it is given. -/
namespace Go.Proofs.YthbpenanelbbcaaGreatDoor.Up
open Go.Proofs.YthbpenanelbbcaaGreatDoor.Pk
open Go.Proofs.YthbpenanelbbcaaGreatDoor.Se (sealV unsealV outV unseal_back unsealV_yes unsealV_no)
open Go.Proofs.YthbpenanelbbcaaGreatDoor.Sh (bt)
theorem unseal_case (s : ByteArray) : (∃ t, unsealV s = outV t 0 0 ∧ sealV t = s ∧ t.size ≤ 7996 ∧ 4 ≤ s.size) ∨ ∃ c : Int, ¬ c = 0 ∧ unsealV s = outV ⟨#[]⟩ 0 c := by
 by_cases h1 : 8000 < s.size
 ·refine .inr ⟨2, by decide, ?_⟩
  unfold unsealV
  rw [if_pos h1]
 ·by_cases h2 : s.size < 4
  ·refine .inr ⟨4, by decide, ?_⟩
   unfold unsealV
   rw [if_neg h1, if_pos h2]
  ·by_cases h : sealV (s.extract 0 (s.size - 4)) = s
   ·refine .inl ⟨_, unsealV_yes s _ h1 h2 rfl h, h, ?_, by omega⟩
    rw [ByteArray.size_extract]
    omega
   ·exact .inr ⟨5, by decide, unsealV_no s _ h1 h2 rfl h⟩
noncomputable def ansT (t : ByteArray) : Value := open Classical in if h : ∃ b : ByteArray, b.size ≤ 48 ∧ innerV b = t then outV (Classical.choose h) 0 0 else outV ⟨#[]⟩ 0 3
noncomputable def ansU (s : ByteArray) : Value := open Classical in if h : ∃ t, unsealV s = outV t 0 0 then ansT (Classical.choose h) else unsealV s
theorem ansU_yes {s t : ByteArray} (h : unsealV s = outV t 0 0) : ansU s = ansT t := by
 have hx : ∃ t, unsealV s = outV t 0 0 := ⟨t, h⟩
 unfold ansU
 rw [dif_pos hx]
 have e := h.symm.trans (Classical.choose_spec hx)
 generalize Classical.choose hx = c at e ⊢
 unfold outV at e
 simp at e
 rw [e]
theorem ansU_no {s : ByteArray} {c : Int} (h0 : ¬ c = 0) (h : unsealV s = outV ⟨#[]⟩ 0 c) : ansU s = outV ⟨#[]⟩ 0 c := by
 have hx : ¬ ∃ t, unsealV s = outV t 0 0 := by
  rintro ⟨t, ht⟩
  rw [h] at ht
  unfold outV at ht
  simp at ht
  exact h0 ht.2
 unfold ansU
 rw [dif_neg hx, h]
theorem inner_size {b : ByteArray} (h : b.size ≤ 48) : (innerV b).size ≤ 49 := by
 unfold innerV
 split
 ·omega
 ·rw [plainV_size]; omega
theorem pack_inner {s t b : ByteArray} (h : sealV t = s) (ht : t.size ≤ 7996) (h4 : 4 ≤ s.size) : packB b = s ↔ b.size ≤ 48 ∧ innerV b = t := by
 unfold packB
 by_cases hb : 48 < b.size
 ·rw [if_pos hb]
  constructor
  ·intro e
   rw [← e] at h4
   exact absurd h4 (by decide)
  ·intro e
   omega
 ·rw [if_neg hb]
  have hi := inner_size (b := b) (by omega)
  constructor
  ·intro e
   refine ⟨by omega, ?_⟩
   have h1 := unseal_back (innerV b) (by omega)
   have h2 := unseal_back t ht
   rw [e, ← h] at h1
   rw [h1] at h2
   unfold outV at h2
   simp at h2
   exact h2
  ·intro e
   rw [e.2, h]
theorem ansT_read {s t r : ByteArray} (h : sealV t = s) (ht : t.size ≤ 7996) (h4 : 4 ≤ s.size) (hr : ∀ b : ByteArray, b.size ≤ 48 → innerV b = t → r = b) : (packB r = s → ansT t = outV r 0 0) ∧ (¬ packB r = s → ansT t = outV ⟨#[]⟩ 0 3) := by
 refine ⟨fun e => ?_, fun e => ?_⟩
 ·have hx : ∃ b : ByteArray, b.size ≤ 48 ∧ innerV b = t := ⟨r, (pack_inner h ht h4).1 e⟩
  unfold ansT
  rw [dif_pos hx]
  have := Classical.choose_spec hx
  rw [← hr _ this.1 this.2]
 ·unfold ansT
  rw [dif_neg]
  rintro ⟨b, h1, h2⟩
  refine e ?_
  rw [hr b h1 h2]
  exact (pack_inner h ht h4).2 ⟨h1, h2⟩
theorem ansT_none {t : ByteArray} (hr : ∀ b : ByteArray, b.size ≤ 48 → ¬ innerV b = t) : ansT t = outV ⟨#[]⟩ 0 3 := by
 unfold ansT
 rw [dif_neg]
 rintro ⟨b, h1, h2⟩
 exact hr b h1 h2
theorem inner_case {t b : ByteArray} (h : b.size ≤ 48) (ht : innerV b = t) : (Good t b ∧ 0 < t.size ∧ bt t 0 = 1) ∨ (t = plainV b ∧ 0 < t.size ∧ bt t 0 = 0 ∧ t.extract 1 t.size = b) := by
 unfold innerV at ht
 split at ht
 ·rename_i hc
  refine .inl ⟨⟨h, ht.symm, hc⟩, ?_, ?_⟩
  ·rw [← ht]
   show 0 < (shortL b).toArray.size
   rw [List.size_toArray]
   unfold shortL
   simp
  ·rw [← ht]
   rfl
 ·refine .inr ⟨ht.symm, ?_, ?_, ?_⟩
  ·rw [← ht, plainV_size]; omega
  ·rw [← ht]
   rfl
  ·rw [← ht]
   refine Bi.ext_list ?_
   rw [ByteArray.data_extract, Array.toList_extract, List.extract_eq_take_drop, plainV_size]
   show (List.drop 1 (0 :: b.data.toList)).take _ = _
   rw [List.drop_one, List.tail_cons, List.take_of_length_le]
   rw [Array.length_toList]
   show b.size ≤ _
   omega
end Go.Proofs.YthbpenanelbbcaaGreatDoor.Up


/- Plain mathematics of the law on blocks: a block comes back from what it is made; what is unpacked is packed so; the blocks of a file, one behind the other, are it. -/
namespace Go.Proofs.YthbpenanelbbcaaGreatDoor.Up
open Go.Proofs.YthbpenanelbbcaaGreatDoor.Pk
open Go.RowKit
open Go.Proofs.YthbpenanelbbcaaGreatDoor.Se (sealV unsealV outV unseal_back fourS_size)
open Go.Proofs.YthbpenanelbbcaaGreatDoor.Bk (blks blocksR cnt fineB)
theorem calls_some {P : Program} {f : FuncId} {args : Array Value} {w : World} {R : Ending → World → Prop} (h : Calls P f args w R) : ∃ e w', R e w' := by
 obtain ⟨e, w', _, hr, _⟩ := h []
 exact ⟨e, w', hr⟩
theorem good_size {t b : ByteArray} (h : Good t b) : 1 ≤ t.size ∧ t.size ≤ 8000 := by
 have h1 := h.1
 have h2 := h.2.1
 have h3 := h.2.2
 constructor
 ·rw [h2]
  show 1 ≤ (shortL b).toArray.size
  rw [List.size_toArray]
  unfold shortL
  simp
 ·rw [h2]
  omega
theorem good_same (w : World) {t b c : ByteArray} (hb : Good t b) (hc : Good t c) : b = c := by
 obtain ⟨h1, h2⟩ := good_size hb
 obtain ⟨e, w', ⟨r, _, _, hr⟩, _⟩ := calls_some (openS_any t w h1 h2)
 rw [← hr b hb, hr c hc]
theorem inner_same (w : World) {b c : ByteArray} (hb : b.size ≤ 48) (hc : c.size ≤ 48) (h : innerV b = innerV c) : b = c := by
 rcases inner_case (t := innerV c) hb h with ⟨h1, h2, h3⟩ | ⟨h1, h2, h3, h4⟩
 ·rcases inner_case (t := innerV c) hc rfl with ⟨k1, k2, k3⟩ | ⟨k1, k2, k3, k4⟩
  ·exact good_same w h1 k1
  ·omega
 ·rcases inner_case (t := innerV c) hc rfl with ⟨k1, k2, k3⟩ | ⟨k1, k2, k3, k4⟩
  ·omega
  ·exact h4.symm.trans k4
theorem packB_inner {b : ByteArray} (h : b.size ≤ 48) : packB b = sealV (innerV b) := if_neg (by omega)
theorem packB_none {b : ByteArray} (h : ¬ b.size ≤ 48) : packB b = ⟨#[]⟩ := if_pos (by omega)
theorem packB_size {b : ByteArray} (h : b.size ≤ 48) : (packB b).size ≤ b.size + 5 ∧ 4 ≤ (packB b).size := by
 rw [packB_inner h]
 have h1 : (innerV b).size ≤ b.size + 1 := by
  unfold innerV
  split
  ·omega
  ·rw [plainV_size]; exact Nat.le_refl _
 unfold sealV
 rw [if_pos (by omega), ByteArray.size_append, fourS_size]
 omega
theorem ansU_pack (w : World) {b : ByteArray} (h : b.size ≤ 48) : ansU (packB b) = outV b 0 0 := by
 have hi := inner_size h
 have hu : unsealV (packB b) = outV (innerV b) 0 0 := by rw [packB_inner h]; exact unseal_back _ (by omega)
 rw [ansU_yes hu]
 refine (ansT_read (s := packB b) (t := innerV b) (r := b) (packB_inner h).symm (by omega) (packB_size h).2 (fun c hc he => ?_)).1 rfl
 exact (inner_same w hc h he).symm
theorem pack_ansU {u t : ByteArray} (h : ansU u = outV t 0 0) : packB t = u := by
 rcases unseal_case u with ⟨s, hu, hse, hs, h4⟩ | ⟨c, hc, hu⟩
 ·rw [ansU_yes hu] at h
  unfold ansT at h
  split at h
  ·rename_i hx
   have hsp := Classical.choose_spec hx
   have e : Classical.choose hx = t := by
    unfold outV at h
    simp at h
    exact h
   rw [e] at hsp
   exact (pack_inner hse hs h4).2 hsp
  ·unfold outV at h
   simp at h
 ·rw [ansU_no hc hu] at h
  unfold outV at h
  simp at h
  exact absurd h.2 hc
theorem ext_list2 (s : ByteArray) (a b : Nat) : (s.extract a b).data.toList = (s.data.toList.drop a).take (b - a) := by
 rw [ByteArray.data_extract, Array.toList_extract, List.extract_eq_take_drop]
theorem ext_cat (s : ByteArray) (a b c : Nat) (h1 : a ≤ b) (h2 : b ≤ c) : (s.extract a b).data.toList ++ (s.extract b c).data.toList = (s.extract a c).data.toList := by
 rw [ext_list2, ext_list2, ext_list2]
 have e1 : c - a = (b - a) + (c - b) := by omega
 rw [e1, List.take_add, List.drop_drop, show a + (b - a) = b by omega]
theorem cat_blks (s : ByteArray) (k : Nat) : ∀ n, cat (blks s k n) = (s.extract 0 (min (n * k) s.size)).data.toList
 | 0 => by
  rw [ext_list2]
  simp [blks, cat]
 | n + 1 => by
  have h : cat (blks s k n ++ [s.extract (n * k) (min (n * k + k) s.size)]) = cat (blks s k n) ++ (s.extract (n * k) (min (n * k + k) s.size)).data.toList := by simp [cat]
  show cat (blks s k n ++ [_]) = _
  rw [h, cat_blks s k n, Nat.add_mul, Nat.one_mul]
  by_cases hl : n * k ≤ s.size
  ·rw [show min (n * k) s.size = n * k by omega]
   exact ext_cat s 0 (n * k) (min (n * k + k) s.size) (by omega) (by omega)
  ·rw [show min (n * k) s.size = s.size by omega, show min (n * k + k) s.size = s.size by omega, ext_list2 s (n * k), show s.size - n * k = 0 by omega]
   simp
theorem cat_blocks (s : ByteArray) (size : Int) (h : fineB s.size size = true) : cat (blocksR s size) = s.data.toList := by
 have hf := of_decide_eq_true h
 obtain ⟨k, rfl⟩ := Int.eq_ofNat_of_zero_le (show 0 ≤ size by omega)
 unfold blocksR
 rw [if_pos h, Int.toNat_natCast, cat_blks]
 have hk : s.size ≤ cnt s.size k * k := by
  rcases Nat.lt_or_ge (cnt s.size k * k) s.size with q | q
  ·exact absurd ((Bk.cnt_lt (by omega)).2 q) (by omega)
  ·exact q
 rw [show min (cnt s.size k * k) s.size = s.size by omega, ext_list2]
 simp
 rw [List.take_of_length_le]
 rw [Array.length_toList]
 exact Nat.le_refl _
end Go.Proofs.YthbpenanelbbcaaGreatDoor.Up


/- What is drawn to be unpacked. -/
namespace Go.Proofs.YthbpenanelbbcaaGreatDoor.Dr
open Go.RowKit
open Go.Proofs.YthbpenanelbbcaaGreatDoor.Pk (packB pack_spec)
open Go.Proofs.YthbpenanelbbcaaGreatDoor.Se (sealV unsealV outV unseal_spec seal_spec)
open Go.Proofs.YthbpenanelbbcaaGreatDoor.Up (fieldX packB_size packB_none unseal_case)
theorem pack_small (b : ByteArray) : (packB b).size ≤ 53 := by
 by_cases h : b.size ≤ 48
 ·have := packB_size h
  omega
 ·rw [packB_none h]
  decide
theorem unseal_small (t : ByteArray) : ∃ (x : ByteArray) (c : Int), unsealV t = .agg #[.string x, .int .i64 0, .int .i64 c] ∧ x.size ≤ 7996 := by
 rcases unseal_case t with ⟨x, h, _, hx, _⟩ | ⟨c, _, h⟩
 ·exact ⟨x, 0, h, hx⟩
 ·exact ⟨_, c, h, by decide⟩
theorem seal_small (t : ByteArray) : (sealV t).size ≤ 8000 := by
 unfold sealV
 split
 ·rw [ByteArray.size_append, Se.fourS_size]
  omega
 ·decide
set_option maxRecDepth 100000 in
set_option maxHeartbeats 2000000 in
theorem drawUnpack_any (a : Option Addr) (len cap : Nat) (w : World) (hl : len ≤ 1048576) (hr : Row w w.heap.size a len) :
  Calls Tryz.prog 6 #[.slice a len cap] w fun e w' => ∃ s : ByteArray, s.size ≤ 1048576 ∧ e = .returned (.string s) ∧ Below w.heap.size w w' := by
 have HR := hideD hr
 clear hr
 go_enter Tryz.func6, Tryz.ntmps6
 go_wp2_with fail
 refine (source_any a len cap _ hl HR.out).mono ?_
 rintro e w1 ⟨rfl, hs1, hb1, hz⟩
 have HS1 := hideD hs1
 have HB1 := hideD hb1
 have z1 := hb1.size
 clear hs1 hb1 hz
 go_wp2_with fail
 refine (some5_any w.heap.size a len cap _ hl HS1.out).mono ?_
 rintro e w2 ⟨b, hbs, rfl, hs2, ha2⟩
 have HS2 := hideD hs2
 have HB2 := hideD (ha2.below HB1.out (Nat.le_refl _) z1)
 clear hs2 ha2 HS1 HB1
 go_wp2_with fail
 refine (pack_spec b _ (by omega)).mono ?_
 rintro e w3 ⟨rfl, hb3⟩
 have HS3 := hideD (HS2.out.below hb3)
 have HB3 := hideD (HB2.out.trans (hb3.mono HB2.out.size))
 have hps := pack_small b
 generalize packB b = t at hps ⊢
 clear hb3 HS2 HB2
 go_wp2_with fail
 refine (n_any w.heap.size a len cap 5 _ hl (by omega) HS3.out).mono ?_
 rintro e w4 ⟨r, rfl, p0, p1, hs4, ho4⟩
 have HS4 := hideD hs4
 have HB4 := hideD (ho4.aft.below HB3.out (Nat.le_refl _) HB3.out.size)
 clear hs4 ho4 HS3 HB3
 by_cases h0 : r = 0
 ·subst h0
  go_wp2_with fail
  refine (spoil_any w.heap.size a len cap t _ hl (by omega) HS4.out).mono ?_
  rintro e w5 ⟨x, hx, rfl, hs5, ha5⟩
  have HB5 := hideD (ha5.below HB4.out (Nat.le_refl _) HB4.out.size)
  clear hs5 ha5
  go_wp2_with fail
  go_ret
  exact ⟨x, by omega, rfl, HB5.out⟩
 ·have h0b : (r == 0) = false := by simp; exact h0
  by_cases h1 : r = 1
  ·subst h1
   obtain ⟨x, c, hu, hx⟩ := unseal_small t
   have HU := hideD (fun W => unseal_spec t W (by unfold maxLen; omega))
   rw [hu] at HU
   clear hu
   have hfld := fieldX x c
   go_wp2_with fail
   refine (HU.out _).mono ?_
   rintro e w5 ⟨rfl, hb5⟩
   have HS5 := hideD (HS4.out.below hb5)
   have HB5 := hideD (HB4.out.trans (hb5.mono HB4.out.size))
   clear hb5 HS4 HB4
   go_wp2_with fail
   refine (spoil_any w.heap.size a len cap x _ hl (by omega) HS5.out).mono ?_
   rintro e w6 ⟨y, hy, rfl, hs6, ha6⟩
   have HB6 := hideD (ha6.below HB5.out (Nat.le_refl _) HB5.out.size)
   clear hs6 ha6 hfld
   go_wp2_with fail
   refine (seal_spec y _ (by unfold maxLen; omega)).mono ?_
   rintro e w7 ⟨rfl, hb7⟩
   have HB7 := hideD (HB6.out.trans (hb7.mono HB6.out.size))
   have hsl := seal_small y
   generalize sealV y = sy at hsl ⊢
   clear hb7
   go_wp2_with fail
   go_ret
   exact ⟨sy, by omega, rfl, HB7.out⟩
  ·have h1b : (r == 1) = false := by simp; exact h1
   by_cases h2 : r = 2
   ·subst h2
    have hwr : IntKind.i64.wrap ((t.size : Int) + 1) = (t.size : Int) + 1 := by rw [IntKind.wrap_i64]; omega
    go_wp2_with fail
    refine (n_any w.heap.size a len cap ((t.size : Int) + 1) _ hl (by omega) HS4.out).mono ?_
    rintro e w5 ⟨r5, rfl, q0, q1, hs5, ho5⟩
    obtain ⟨k, rfl⟩ := Int.eq_ofNat_of_zero_le q0
    have hk : k ≤ t.size := by omega
    have hki : (k : Int) ≤ (t.size : Int) := by omega
    have HB5 := hideD (ho5.aft.below HB4.out (Nat.le_refl _) HB4.out.size)
    have HSZ : Hid ((t.extract 0 k).size ≤ 1048576) := by unfold Hid; rw [ByteArray.size_extract]; omega
    clear hs5 ho5
    go_wp2_with fail
    go_ret
    exact ⟨_, HSZ.out, rfl, HB5.out⟩
   ·have h2b : (r == 2) = false := by simp; exact h2
    go_wp2_with fail
    go_ret
    exact ⟨t, by omega, rfl, HB4.out⟩
end Go.Proofs.YthbpenanelbbcaaGreatDoor.Dr


/- What the specification's BlockUnpack answers. -/
namespace Go.Proofs.YthbpenanelbbcaaGreatDoor.Up
open Go.Proofs.YthbpenanelbbcaaGreatDoor.Pk
open Go.RowKit
open Go.Proofs.YthbpenanelbbcaaGreatDoor.Se (sealV unsealV outV unseal_spec)
open Go.Proofs.YthbpenanelbbcaaGreatDoor.Sh (bt)
theorem list_eqP (a b : ByteArray) : (a.toList == b.toList) = decide (a = b) := Se.list_eq_iff a b
theorem byte0 {t : ByteArray} (h : 0 < t.size) : (t[0]'h).toNat = bt t 0 := by
 unfold Sh.bt
 simp [h]
 rfl
theorem three {W : World} {g : Nat} {x y z : Value} {t : TypeId} (h : W.heap[g]? = some (.cells #[x, y, z] t (0, 0))) : W.cell? ⟨g, 0, none⟩ = some x ∧ W.cell? ⟨g, 1, none⟩ = some y ∧ W.cell? ⟨g, 2, none⟩ = some z :=
 ⟨cell_of_row W g 0 _ _ _ h, cell_of_row W g 1 _ _ _ h, cell_of_row W g 2 _ _ _ h⟩
theorem set3_cells {W : World} {g : Nat} {x y z : Value} {T : TypeId} (h : W.heap[g]? = some (.cells #[x, y, z] T (0, 0))) (a b c : Value) :
  (((W.setCell ⟨g, 0, none⟩ a).setCell ⟨g, 1, none⟩ b).setCell ⟨g, 2, none⟩ c).cell? ⟨g, 0, none⟩ = some a ∧ (((W.setCell ⟨g, 0, none⟩ a).setCell ⟨g, 1, none⟩ b).setCell ⟨g, 2, none⟩ c).cell? ⟨g, 1, none⟩ = some b ∧ (((W.setCell ⟨g, 0, none⟩ a).setCell ⟨g, 1, none⟩ b).setCell ⟨g, 2, none⟩ c).cell? ⟨g, 2, none⟩ = some c := three (set_k3 (set_k3 (set_k3 h a).1 b).2.1 c).2.2
theorem set3_alloc {W : World} {g : Nat} {x y z : Value} {T : TypeId} (h : W.heap[g]? = some (.cells #[x, y, z] T (0, 0))) (a b c : Value) (o : Obj) :
  ((((W.setCell ⟨g, 0, none⟩ a).setCell ⟨g, 1, none⟩ b).setCell ⟨g, 2, none⟩ c).alloc o).cell? ⟨g, 0, none⟩ = some a ∧ ((((W.setCell ⟨g, 0, none⟩ a).setCell ⟨g, 1, none⟩ b).setCell ⟨g, 2, none⟩ c).alloc o).cell? ⟨g, 1, none⟩ = some b ∧ ((((W.setCell ⟨g, 0, none⟩ a).setCell ⟨g, 1, none⟩ b).setCell ⟨g, 2, none⟩ c).alloc o).cell? ⟨g, 2, none⟩ = some c :=
 three (blk_low (set_k3 (set_k3 (set_k3 h a).1 b).2.1 c).2.2 ((Below.refl _ _).alloc (Nat.le_refl _) _))
theorem set3_low {B : Nat} {w W : World} (h : Below B w W) (a b c : Value) : Below B w (((W.setCell ⟨B, 0, none⟩ a).setCell ⟨B, 1, none⟩ b).setCell ⟨B, 2, none⟩ c) := ((h.setCell (p := ⟨B, 0, none⟩) (Nat.le_refl _) a).setCell (p := ⟨B, 1, none⟩) (Nat.le_refl _) b).setCell (p := ⟨B, 2, none⟩) (Nat.le_refl _) c
theorem set3_lowA {B : Nat} {w W : World} (hB : w.heap.size = B) (h : Below B w W) (a b c : Value) (o : Obj) : Below B w ((((W.setCell ⟨B, 0, none⟩ a).setCell ⟨B, 1, none⟩ b).setCell ⟨B, 2, none⟩ c).alloc o) := by
 have := set3_low h a b c
 exact this.alloc (by have := this.size; omega) o
set_option maxRecDepth 100000 in
set_option maxHeartbeats 4000000 in
theorem unpack_spec (s : ByteArray) (w : World) (hs : s.size ≤ 1048576) :
    Calls Tryz.prog 12 #[.string s] w fun e w' => e = .returned (ansU s) ∧ Below w.heap.size w w' := by
  obtain ⟨g, hg⟩ : ∃ g, g = w.heap.size := ⟨_, rfl⟩
  have HBE := hideP hg.symm
  have HR0 : Hid ((w.alloc (.cells #[.string ⟨#[]⟩, .int .i64 0, .int .i64 0] 26)).heap[g]? = some (.cells #[.string ⟨#[]⟩, .int .i64 0, .int .i64 0] 26 (0, 0))) := by rw [hg]; exact heap_alloc_new w _
  have HL0 : Hid (Below g w (w.alloc (.cells #[.string ⟨#[]⟩, .int .i64 0, .int .i64 0] 26))) := by rw [hg]; exact (Below.refl _ _).alloc (Nat.le_refl _) _
  rcases unseal_case s with ⟨t, hu, hse, htz, h4⟩ | ⟨c, hc0, hu⟩
  · have HU := hideP hu
    have HSE := hideP hse
    have HAN := hideP (ansU_yes hu)
    clear hu hse
    go_enter Tryz.func12, Tryz.ntmps12
    go_wp2_with fail
    rw [← hg]
    generalize hww : w.alloc (.cells #[.string ⟨#[]⟩, .int .i64 0, .int .i64 0] 26) = w0 at HR0 HL0 ⊢
    clear hww hg
    refine (unseal_spec s _ (by unfold maxLen; omega)).mono ?_
    rintro e w1 ⟨rfl, hb1⟩
    have R1 := hideP (blk_low HR0.out hb1)
    have L1 := hideP (low2 HBE.out HL0.out hb1)
    clear hb1 HR0 HL0
    rw [HU.out]
    unfold outV
    by_cases ht0 : 0 < t.size
    · have ht0i : (0 : Int) < (t.size : Int) := by omega
      have HB0 := hideP (byte0 ht0)
      generalize hx0 : (t[0]'ht0).toNat = x0 at HB0
      have HX0 := hideP hx0
      by_cases hz : x0 = 0
      · have e0 : (((t[0]'ht0).toNat : Int) == 0) = true := by rw [hx0, hz]; rfl
        have e1 : (((t[0]'ht0).toNat : Int) == 1) = false := by rw [hx0, hz]; rfl
        clear hx0
        go_wp2_with fail
        have Rx : Hid ((w1.alloc (.cells #[.string t, .int .i64 0, .int .i64 0] 26)).heap[g]? = some (.cells #[.string ⟨#[]⟩, .int .i64 0, .int .i64 0] 26 (0, 0))) := blk_low R1.out ((Below.refl _ _).alloc (Nat.le_refl _) _)
        have Lx : Hid (Below g w (w1.alloc (.cells #[.string t, .int .i64 0, .int .i64 0] 26))) := low2 HBE.out L1.out ((Below.refl _ _).alloc (Nat.le_refl _) _)
        generalize hww : w1.alloc (.cells #[.string t, .int .i64 0, .int .i64 0] 26) = wx at Rx Lx ⊢
        clear hww
        have Rwx := Rx
        have Lwx := Lx
        clear Rx Lx
        have hrs : (t.extract 1 t.size).size ≤ 1048576 := (by have := ext_size t 1; omega)
        refine (pack_spec (t.extract 1 t.size) _ hrs).mono ?_
        rintro e wp ⟨rfl, hbp⟩
        have Rwp := hideP (blk_low Rwx.out hbp)
        have Lwp := hideP (low2 HBE.out Lwx.out hbp)
        clear hbp
        obtain ⟨kb, hkb⟩ : ∃ x, x = packB (t.extract 1 t.size) := ⟨_, rfl⟩
        obtain ⟨ha1, ha2⟩ := ansT_read HSE.out htz h4 (r := t.extract 1 t.size) (fun b h1 h2 => by
              rcases inner_case h1 h2 with k | k
              · have q1 := HB0.out; have q2 := k.2.2; omega
              · exact k.2.2.2)
        rw [← hkb] at ha1 ha2 ⊢
        clear hkb
        by_cases hk : kb = s
        · have HQ := hideP (ha1 hk)
          subst hk
          have cc := three Rwp.out
          have ff := fun o => frozen_of_row wp g o _ _ Rwp.out
          obtain ⟨cc0, cc1, cc2⟩ := cc
          have s3 := set3_cells Rwp.out (.string (t.extract 1 t.size)) (.int .i64 0) (.int .i64 0)
          go_wp2_with fail
          refine bodyPost_ret (v := outV (t.extract 1 t.size) 0 0) (by simp [results, outV, Tryz.results12, go_sem, s3.1, s3.2.1, s3.2.2]) rfl ⟨?_, ?_⟩
          · rw [HAN.out, HQ.out]
          · rw [HBE.out]
            exact set3_low Lwp.out _ _ _
        · have HQ := hideP (ha2 hk)
          have hkl : (kb.toList == s.toList) = false := by rw [list_eqP]; exact decide_eq_false hk
          have cc := three Rwp.out
          have ff := fun o => frozen_of_row wp g o _ _ Rwp.out
          obtain ⟨cc0, cc1, cc2⟩ := cc
          have s3 := set3_cells Rwp.out (.string ⟨#[]⟩) (.int .i64 0) (.int .i64 3)
          go_wp2_with fail
          refine bodyPost_ret (v := outV ⟨#[]⟩ 0 3) (by simp [results, outV, Tryz.results12, go_sem, s3.1, s3.2.1, s3.2.2]) rfl ⟨?_, ?_⟩
          · rw [HAN.out, HQ.out]
          · rw [HBE.out]
            exact set3_low Lwp.out _ _ _
      · by_cases hy : x0 = 1
        · have e0 : (((t[0]'ht0).toNat : Int) == 0) = false := by rw [hx0, hy]; rfl
          have e1 : (((t[0]'ht0).toNat : Int) == 1) = true := by rw [hx0, hy]; rfl
          clear hx0
          go_wp2_with fail
          have Rx : Hid ((w1.alloc (.cells #[.string t, .int .i64 0, .int .i64 0] 26)).heap[g]? = some (.cells #[.string ⟨#[]⟩, .int .i64 0, .int .i64 0] 26 (0, 0))) := blk_low R1.out ((Below.refl _ _).alloc (Nat.le_refl _) _)
          have Lx : Hid (Below g w (w1.alloc (.cells #[.string t, .int .i64 0, .int .i64 0] 26))) := low2 HBE.out L1.out ((Below.refl _ _).alloc (Nat.le_refl _) _)
          generalize hww : w1.alloc (.cells #[.string t, .int .i64 0, .int .i64 0] 26) = wx at Rx Lx ⊢
          clear hww
          have Rwx := Rx
          have Lwx := Lx
          clear Rx Lx
          refine (openS_any t wx (by omega) (by omega)).mono ?_
          rintro e wo ⟨⟨r, rfl, hrz, hro⟩, hbo⟩
          have Rwo := hideP (blk_low Rwx.out hbo)
          have Lwo := hideP (low2 HBE.out Lwx.out hbo)
          have HRO := hideP hro
          clear hbo hro
          go_wp2_with fail
          have hrs : (r).size ≤ 1048576 := (by omega)
          refine (pack_spec r _ hrs).mono ?_
          rintro e wp ⟨rfl, hbp⟩
          have Rwp := hideP (blk_low Rwo.out hbp)
          have Lwp := hideP (low2 HBE.out Lwo.out hbp)
          clear hbp
          obtain ⟨kb, hkb⟩ : ∃ x, x = packB r := ⟨_, rfl⟩
          obtain ⟨ha1, ha2⟩ := ansT_read HSE.out htz h4 (r := r) (fun b h1 h2 => by
                rcases inner_case h1 h2 with k | k
                · exact HRO.out b k.1
                · have q1 := HB0.out; have q2 := k.2.2.1; omega)
          rw [← hkb] at ha1 ha2 ⊢
          clear hkb
          by_cases hk : kb = s
          · have HQ := hideP (ha1 hk)
            subst hk
            have cc := three Rwp.out
            have ff := fun o => frozen_of_row wp g o _ _ Rwp.out
            obtain ⟨cc0, cc1, cc2⟩ := cc
            have s3 := set3_cells Rwp.out (.string (r)) (.int .i64 0) (.int .i64 0)
            go_wp2_with fail
            refine bodyPost_ret (v := outV r 0 0) (by simp [results, outV, Tryz.results12, go_sem, s3.1, s3.2.1, s3.2.2]) rfl ⟨?_, ?_⟩
            · rw [HAN.out, HQ.out]
            · rw [HBE.out]
              exact set3_low Lwp.out _ _ _
          · have HQ := hideP (ha2 hk)
            have hkl : (kb.toList == s.toList) = false := by rw [list_eqP]; exact decide_eq_false hk
            have cc := three Rwp.out
            have ff := fun o => frozen_of_row wp g o _ _ Rwp.out
            obtain ⟨cc0, cc1, cc2⟩ := cc
            have s3 := set3_cells Rwp.out (.string ⟨#[]⟩) (.int .i64 0) (.int .i64 3)
            go_wp2_with fail
            refine bodyPost_ret (v := outV ⟨#[]⟩ 0 3) (by simp [results, outV, Tryz.results12, go_sem, s3.1, s3.2.1, s3.2.2]) rfl ⟨?_, ?_⟩
            · rw [HAN.out, HQ.out]
            · rw [HBE.out]
              exact set3_low Lwp.out _ _ _
        · have e0 : (((t[0]'ht0).toNat : Int) == 0) = false := by rw [hx0, beq_eq_false_iff_ne]; omega
          have e1 : (((t[0]'ht0).toNat : Int) == 1) = false := by rw [hx0, beq_eq_false_iff_ne]; omega
          clear hx0
          go_wp2_with fail
          have Rx : Hid ((w1.alloc (.cells #[.string t, .int .i64 0, .int .i64 0] 26)).heap[g]? = some (.cells #[.string ⟨#[]⟩, .int .i64 0, .int .i64 0] 26 (0, 0))) := blk_low R1.out ((Below.refl _ _).alloc (Nat.le_refl _) _)
          have Lx : Hid (Below g w (w1.alloc (.cells #[.string t, .int .i64 0, .int .i64 0] 26))) := low2 HBE.out L1.out ((Below.refl _ _).alloc (Nat.le_refl _) _)
          generalize hww : w1.alloc (.cells #[.string t, .int .i64 0, .int .i64 0] 26) = wx at Rx Lx ⊢
          clear hww
          have Rwx := Rx
          have Lwx := Lx
          clear Rx Lx
          have hrs : (⟨#[]⟩ : ByteArray).size ≤ 1048576 := (by decide)
          refine (pack_spec ⟨#[]⟩ _ hrs).mono ?_
          rintro e wp ⟨rfl, hbp⟩
          have Rwp := hideP (blk_low Rwx.out hbp)
          have Lwp := hideP (low2 HBE.out Lwx.out hbp)
          clear hbp
          obtain ⟨kb, hkb⟩ : ∃ x, x = packB ⟨#[]⟩ := ⟨_, rfl⟩
          obtain ⟨ha1, ha2⟩ := ansT_read HSE.out htz h4 (r := ⟨#[]⟩) (fun b h1 h2 => by
                rcases inner_case h1 h2 with k | k
                · have q1 := HB0.out; have q2 := k.2.2; omega
                · have q1 := HB0.out; have q2 := k.2.2.1; omega)
          rw [← hkb] at ha1 ha2 ⊢
          clear hkb
          by_cases hk : kb = s
          · have HQ := hideP (ha1 hk)
            subst hk
            have cc := three Rwp.out
            have ff := fun o => frozen_of_row wp g o _ _ Rwp.out
            obtain ⟨cc0, cc1, cc2⟩ := cc
            have s3 := set3_cells Rwp.out (.string (⟨#[]⟩)) (.int .i64 0) (.int .i64 0)
            go_wp2_with fail
            refine bodyPost_ret (v := outV ⟨#[]⟩ 0 0) (by simp [results, outV, Tryz.results12, go_sem, s3.1, s3.2.1, s3.2.2]) rfl ⟨?_, ?_⟩
            · rw [HAN.out, HQ.out]
            · rw [HBE.out]
              exact set3_low Lwp.out _ _ _
          · have HQ := hideP (ha2 hk)
            have hkl : (kb.toList == s.toList) = false := by rw [list_eqP]; exact decide_eq_false hk
            have cc := three Rwp.out
            have ff := fun o => frozen_of_row wp g o _ _ Rwp.out
            obtain ⟨cc0, cc1, cc2⟩ := cc
            have s3 := set3_cells Rwp.out (.string ⟨#[]⟩) (.int .i64 0) (.int .i64 3)
            go_wp2_with fail
            refine bodyPost_ret (v := outV ⟨#[]⟩ 0 3) (by simp [results, outV, Tryz.results12, go_sem, s3.1, s3.2.1, s3.2.2]) rfl ⟨?_, ?_⟩
            · rw [HAN.out, HQ.out]
            · rw [HBE.out]
              exact set3_low Lwp.out _ _ _
    · have ht0i : ¬ (0 : Int) < (t.size : Int) := by omega
      go_wp2_with fail
      have Rx : Hid ((w1.alloc (.cells #[.string t, .int .i64 0, .int .i64 0] 26)).heap[g]? = some (.cells #[.string ⟨#[]⟩, .int .i64 0, .int .i64 0] 26 (0, 0))) := blk_low R1.out ((Below.refl _ _).alloc (Nat.le_refl _) _)
      have Lx : Hid (Below g w (w1.alloc (.cells #[.string t, .int .i64 0, .int .i64 0] 26))) := low2 HBE.out L1.out ((Below.refl _ _).alloc (Nat.le_refl _) _)
      generalize hww : w1.alloc (.cells #[.string t, .int .i64 0, .int .i64 0] 26) = wx at Rx Lx ⊢
      clear hww
      have Rwx := Rx
      have Lwx := Lx
      clear Rx Lx
      have hrs : (⟨#[]⟩ : ByteArray).size ≤ 1048576 := (by decide)
      refine (pack_spec ⟨#[]⟩ _ hrs).mono ?_
      rintro e wp ⟨rfl, hbp⟩
      have Rwp := hideP (blk_low Rwx.out hbp)
      have Lwp := hideP (low2 HBE.out Lwx.out hbp)
      clear hbp
      obtain ⟨kb, hkb⟩ : ∃ x, x = packB ⟨#[]⟩ := ⟨_, rfl⟩
      obtain ⟨ha1, ha2⟩ := ansT_read HSE.out htz h4 (r := ⟨#[]⟩) (fun b h1 h2 => by
            rcases inner_case h1 h2 with k | k
            · exact absurd k.2.1 ht0
            · exact absurd k.2.1 ht0)
      rw [← hkb] at ha1 ha2 ⊢
      clear hkb
      by_cases hk : kb = s
      · have HQ := hideP (ha1 hk)
        subst hk
        have cc := three Rwp.out
        have ff := fun o => frozen_of_row wp g o _ _ Rwp.out
        obtain ⟨cc0, cc1, cc2⟩ := cc
        have s3 := set3_cells Rwp.out (.string (⟨#[]⟩)) (.int .i64 0) (.int .i64 0)
        go_wp2_with fail
        refine bodyPost_ret (v := outV ⟨#[]⟩ 0 0) (by simp [results, outV, Tryz.results12, go_sem, s3.1, s3.2.1, s3.2.2]) rfl ⟨?_, ?_⟩
        · rw [HAN.out, HQ.out]
        · rw [HBE.out]
          exact set3_low Lwp.out _ _ _
      · have HQ := hideP (ha2 hk)
        have hkl : (kb.toList == s.toList) = false := by rw [list_eqP]; exact decide_eq_false hk
        have cc := three Rwp.out
        have ff := fun o => frozen_of_row wp g o _ _ Rwp.out
        obtain ⟨cc0, cc1, cc2⟩ := cc
        have s3 := set3_cells Rwp.out (.string ⟨#[]⟩) (.int .i64 0) (.int .i64 3)
        go_wp2_with fail
        refine bodyPost_ret (v := outV ⟨#[]⟩ 0 3) (by simp [results, outV, Tryz.results12, go_sem, s3.1, s3.2.1, s3.2.2]) rfl ⟨?_, ?_⟩
        · rw [HAN.out, HQ.out]
        · rw [HBE.out]
          exact set3_low Lwp.out _ _ _
  · have HAN := hideP (ansU_no hc0 hu)
    have HU := hideP hu
    have hc' : (c != 0) = true := by simp; exact hc0
    clear hu hc0
    go_enter Tryz.func12, Tryz.ntmps12
    go_wp2_with fail
    rw [← hg]
    generalize hww : w.alloc (.cells #[.string ⟨#[]⟩, .int .i64 0, .int .i64 0] 26) = w0 at HR0 HL0 ⊢
    clear hww hg
    refine (unseal_spec s _ (by unfold maxLen; omega)).mono ?_
    rintro e w1 ⟨rfl, hb1⟩
    have R1 := hideP (blk_low HR0.out hb1)
    have L1 := hideP (low2 HBE.out HL0.out hb1)
    clear hb1 HR0 HL0
    rw [HU.out]
    unfold outV
    obtain ⟨cc0, cc1, cc2⟩ := three R1.out
    have ff := fun o => frozen_of_row w1 g o _ _ R1.out
    have s3 := fun o => set3_alloc R1.out (.string ⟨#[]⟩) (.int .i64 0) (.int .i64 c) o
    have HGW : Hid (g < w1.heap.size) := (Array.getElem?_eq_some_iff.1 R1.out).1
    have hgw := HGW.out
    go_wp2_with fail
    refine bodyPost_ret (v := outV ⟨#[]⟩ 0 c) (by simp [results, outV, Tryz.results12, go_sem, (s3 _).1, (s3 _).2.1, (s3 _).2.2]) rfl ⟨?_, ?_⟩
    · rw [HAN.out]
    · rw [HBE.out]
      exact set3_lowA HBE.out L1.out _ _ _ _
end Go.Proofs.YthbpenanelbbcaaGreatDoor.Up


/- What impl's readBlock hands back, given what readShort does. -/
namespace Go.Proofs.YthbpenanelbbcaaGreatDoor.Up
open Go.Proofs.YthbpenanelbbcaaGreatDoor.Pk
open Go.RowKit
open Go.Proofs.YthbpenanelbbcaaGreatDoor.Sh (bt)
def cutR : Go.Shelf.Ren := ⟨fun | 206 => 87 | n => n, fun | 9 => 9 | 4 => 4 | 3 => 3 | n => n, fun | n => n⟩
theorem cutL : Go.Proofs.Lays.n206 Tryz.prog cutR := {
 mixed := by kernel_rfl
 f206 := Tryz.func87.trans (congrArg some (by kernel_rfl))
 t3 := Tryz.underlying3
 a3 := Tryz.isAgg3
 z3 := Tryz.sizeOf3
 v3 := Tryz.zeroValue3
 t4 := Tryz.underlying4
 a4 := Tryz.isAgg4
 z4 := Tryz.sizeOf4
 v4 := Tryz.zeroValue4
 t9 := Tryz.underlying9
 a9 := Tryz.isAgg9
 z9 := Tryz.sizeOf9
 v9 := Tryz.zeroValue9 }
theorem has_one (t : ByteArray) (k : UInt8) : Lib.hasPrefix t.data.toList [k] = decide (0 < t.size ∧ bt t 0 = k.toNat) := by
 have hz : t.size = t.data.toList.length := by rw [Array.length_toList]; rfl
 have hb : bt t 0 = (t.data.toList.getD 0 0).toNat := by
  unfold Sh.bt
  simp
 rw [hz, hb]
 cases t.data.toList with
 | nil => simp [Lib.hasPrefix]
 | cons x l =>
  have e : Lib.hasPrefix (x :: l) [k] = (k == x) := by
   show [k].isPrefixOf (x :: l) = _
   simp [List.isPrefixOf]
  rw [e]
  by_cases h : k = x
  ·subst h
   simp
  ·have h2 : ¬ x.toNat = k.toNat := fun q => h (UInt8.toNat_inj.1 q).symm
   rw [beq_eq_false_iff_ne.2 h, decide_eq_false]
   exact fun q => h2 q.2
theorem size_ext (t : ByteArray) : (t.extract 1 t.size).size ≤ t.size := by
 rw [ByteArray.size_extract]
 omega
set_option maxRecDepth 100000 in
theorem cutLite_any (t : ByteArray) (k : UInt8) (w : World) (ht : t.size ≤ 1048576) :
  Calls Tryz.prog 86 #[.string t, .string ⟨#[k]⟩] w fun e w' => ((0 < t.size ∧ bt t 0 = k.toNat) ∧ e = .returned (.tuple #[.string (t.extract 1 t.size), .bool true]) ∨ ¬ (0 < t.size ∧ bt t 0 = k.toNat) ∧ e = .returned (.tuple #[.string t, .bool false])) ∧ w' = w := by
 have HP := hideP (Any.stringslite_HasPrefix cutL t ⟨#[k]⟩ w)
 have HO := hideP (has_one t k)
 by_cases h : 0 < t.size ∧ bt t 0 = k.toNat
 ·rw [show (⟨#[k]⟩ : ByteArray).data.toList = [k] from rfl, HO.out, decide_eq_true h] at HP
  have h1 : (1 : Int) ≤ (t.size : Int) := by omega
  go_enter Tryz.func86, Tryz.ntmps86
  go_wp2_with fail
  refine HP.out.mono ?_
  rintro e w' ⟨rfl, rfl⟩
  have hk : (⟨#[k]⟩ : ByteArray).size = 1 := rfl
  go_wp2_with fail
  go_ret2
  exact ⟨.inl ⟨h, rfl⟩, rfl⟩
 ·rw [show (⟨#[k]⟩ : ByteArray).data.toList = [k] from rfl, HO.out, decide_eq_false h] at HP
  go_enter Tryz.func86, Tryz.ntmps86
  go_wp2_with fail
  refine HP.out.mono ?_
  rintro e w' ⟨rfl, rfl⟩
  go_wp2_with fail
  go_ret2
  exact ⟨.inr ⟨h, rfl⟩, rfl⟩
theorem cut_any (t : ByteArray) (k : UInt8) (w : World) (ht : t.size ≤ 1048576) :
  Calls Tryz.prog 55 #[.string t, .string ⟨#[k]⟩] w fun e w' => ((0 < t.size ∧ bt t 0 = k.toNat) ∧ e = .returned (.tuple #[.string (t.extract 1 t.size), .bool true]) ∨ ¬ (0 < t.size ∧ bt t 0 = k.toNat) ∧ e = .returned (.tuple #[.string t, .bool false])) ∧ w' = w := by
 go_enter Tryz.func55, Tryz.ntmps55
 go_wp2_with fail
 refine (cutLite_any t k w ht).mono ?_
 rintro e w' ⟨⟨h, rfl⟩ | ⟨h, rfl⟩, rfl⟩
 ·go_wp2_with fail
  go_ret2
  exact ⟨.inl ⟨h, rfl⟩, rfl⟩
 ·go_wp2_with fail
  go_ret2
  exact ⟨.inr ⟨h, rfl⟩, rfl⟩
theorem has_any (t : ByteArray) (k : UInt8) (w : World) :
  Calls Tryz.prog 56 #[.string t, .string ⟨#[k]⟩] w fun e w' => e = .returned (.bool (decide (0 < t.size ∧ bt t 0 = k.toNat))) ∧ w' = w := by
 have := Bi.prefix_any t ⟨#[k]⟩ w
 rw [show (⟨#[k]⟩ : ByteArray).data.toList = [k] from rfl, has_one t k] at this
 exact this
set_option maxRecDepth 100000 in
set_option maxHeartbeats 1000000 in
theorem read_block (ev : Value) (HS : Hid (∀ (s : ByteArray) (w : World), Glob w ev → 1 ≤ s.size → s.size ≤ 8000 → Calls Tryz.prog 57 #[.string s] w fun e w' => (∃ r v, e = .returned (.tuple #[.string r, v]) ∧ (v = .nilIface ∨ v = ev) ∧ r.size ≤ 8000 ∧ ∀ b, Good s b → r = b ∧ v = .nilIface) ∧ Below w.heap.size w w'))
  (t : ByteArray) (w : World) (ht : t.size ≤ 8000) (hg : Glob w ev) :
  Calls Tryz.prog 27 #[.string t] w fun e w' => (∃ r v, e = .returned (.tuple #[.string r, v]) ∧ (v = .nilIface ∨ v = ev) ∧ r.size ≤ 8000 ∧ ∀ b : ByteArray, b.size ≤ 48 → innerV b = t → r = b ∧ v = .nilIface) ∧ Below w.heap.size w w' := by
 have HG := hideP hg
 have g0 : w.cell? ⟨0, 0, none⟩ = some ev := hg.2
 clear hg
 go_enter Tryz.func27, Tryz.ntmps27
 go_wp2_with fail
 refine (cut_any t 0 w (by omega)).mono ?_
 rintro e w' ⟨⟨h, rfl⟩ | ⟨h, rfl⟩, rfl⟩
 ·go_wp2_with fail
  go_ret2
  refine ⟨⟨_, _, rfl, .inl rfl, by have := size_ext t; omega, fun b h1 h2 => ?_⟩, Below.refl _ _⟩
  rcases inner_case h1 h2 with k | k
  ·have q1 := k.2.2
   have q2 : bt t 0 = 0 := h.2
   omega
  ·exact ⟨k.2.2.2, rfl⟩
 ·have H0 := hideP h
  clear h
  go_wp2_with fail
  refine (has_any t 1 _).mono ?_
  rintro e w2 ⟨rfl, rfl⟩
  by_cases h1 : 0 < t.size ∧ bt t 0 = (1 : UInt8).toNat
  ·rw [decide_eq_true h1]
   have H1 := hideP h1
   clear h1
   go_wp2_with fail
   refine (HS.out t _ HG.out (by have := H1.out.1; omega) ht).mono ?_
   rintro e w3 ⟨⟨r, v, rfl, hv, hrz, hr⟩, hb⟩
   have HV := hideP hv
   have HR := hideP hr
   have HB := hideP hb
   clear hv hr hb
   go_wp2_with fail
   go_ret2
   refine ⟨⟨_, _, rfl, HV.out, hrz, fun b h1 h2 => ?_⟩, HB.out⟩
   rcases inner_case h1 h2 with k | k
   ·exact HR.out b k.1
   ·exact absurd ⟨k.2.1, k.2.2.1⟩ H0.out
  ·rw [decide_eq_false h1]
   have H1 := hideP h1
   clear h1
   go_wp2_with fail
   go_quiet (fail)
   go_wp2_with fail
   go_ret2
   refine ⟨⟨_, _, rfl, .inr rfl, by decide, fun b h1 h2 => ?_⟩, below_drewN (Below.refl _ _) _⟩
   rcases inner_case h1 h2 with k | k
   ·exact absurd ⟨k.2.1, k.2.2⟩ H1.out
   ·exact absurd ⟨k.2.1, k.2.2.1⟩ H0.out
end Go.Proofs.YthbpenanelbbcaaGreatDoor.Up


/- errors.Is of no error. -/
namespace Go.Proofs.YthbpenanelbbcaaGreatDoor.Up
open Go.Proofs.YthbpenanelbbcaaGreatDoor.Pk
open Go.RowKit
theorem eq_nil (tid : TypeId) (pv : Value) (u : World) : Sem.run Tryz.prog (binOp BinOp.eql 40 .nilIface (.iface tid pv)) u = .ok (.bool false) u := by kernel_rfl
set_option maxRecDepth 100000 in
theorem is_nil (tid : TypeId) (pv : Value) (w : World) :
  Calls Tryz.prog 28 #[.nilIface, .iface tid pv] w fun e w' => e = .returned (.bool false) ∧ w' = w := by
 have heq := eq_nil tid pv
 go_enter Tryz.func28, Tryz.ntmps28
 go_wp2
 go_ret
 exact ⟨rfl, rfl⟩
end Go.Proofs.YthbpenanelbbcaaGreatDoor.Up

