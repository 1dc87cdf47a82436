/- The walk of impl.RangeAdd. -/
import Derived.Test.YteiicafjjcnioaaDoorAddPlain
namespace Go.Proofs.YteiicafjjcnioaaDoor.Tr
open Go.RowKit
open Go.Proofs.YteiicafjjcnioaaDoor.St
open Go.Proofs.YteiicafjjcnioaaDoor.Sh (Vars leafV leafV_size leaf_impl leafR_yes nodeV nodeV_size nodeR nodeR_yes node_impl)

set_option maxRecDepth 100000 in
set_option maxHeartbeats 4000000 in
theorem add_impl_big (n : Int) (p : List ByteArray) (t : ByteArray) (a : Option Addr) (cap : Nat) (w : World) (ht : t.size ≤ maxLen) (hbig : 8000 < t.size) :
    Calls Tryd.prog 33 #[.agg #[.int .i64 n, .slice a p.length cap], .string t] w fun e w' => ∃ v, e = .returned (.agg #[.int .i64 (addN n p t), v]) ∧ OwnS w' w.heap.size v (addR n p t) ∧ Below w.heap.size w w' := by
  obtain ⟨e1, e2⟩ := add_big n p t hbig
  rw [e1, e2]
  clear e1 e2
  unfold maxLen at ht
  generalize p.length = m
  go_enter Tryd.func33, Tryd.ntmps33
  go_wp2_with fail
  refine bodyPost_ret (v := .agg #[.int .i64 0, .slice none 0 0]) (by simp [results, Tryd.results33, go_sem]) rfl ⟨.slice none 0 0, rfl, OwnS.nil _ _, ?_⟩
  exact ((Below.refl _ _).alloc (Nat.le_refl _) _).alloc (by simp) _

theorem lt_of_row {w : World} {g : Nat} {o : Obj} (h : w.heap[g]? = some o) : g < w.heap.size := (Array.getElem?_eq_some_iff.1 h).1
theorem grown_two {w w3 : World} {v1 : Value} {p : List ByteArray} {m : Nat} {x0 x1 y0 y1 : Value} {t1 t2 : TypeId} (HM : Hid (m = p.length))
    (hown : w3.ownsRow (w.heap.size + 2) 9 1 v1 (0 + m) ([] ++ p.map Value.string))
    (hgrow : ((w.alloc (.cells #[x0, x1] t1)).alloc (.cells #[y0, y1] t2)).grownBy w3 (Value.slice none 0 0).ownBlock) :
    Hid (OwnS w3 (w.heap.size + 2) v1 p) ∧ Hid (Below w.heap.size w w3) ∧ Hid (w3.heap[w.heap.size + 1]? = some (.cells #[y0, y1] t2 (0, 0))) ∧ Hid (w3.heap[w.heap.size]? = some (.cells #[x0, x1] t1 (0, 0))) := by
  have hb : Below (w.heap.size + 2) ((w.alloc (.cells #[x0, x1] t1)).alloc (.cells #[y0, y1] t2)) w3 := (Below.refl _ _).grown hgrow (by simp) (by intro k hk; simp [Value.ownBlock] at hk)
  refine ⟨?_, ?_, ?_, ?_⟩
  · unfold Hid OwnS
    rw [← HM.out]
    simpa using hown
  · exact (((Below.refl _ _).alloc (Nat.le_refl _) _).alloc (by simp) _).trans (hb.mono (by omega))
  · unfold Hid
    rw [hb.block _ (by omega)]
    have := heap_alloc_last (w.alloc (.cells #[x0, x1] t1)) (.cells #[y0, y1] t2)
    rw [show (w.alloc (.cells #[x0, x1] t1)).heap.size = w.heap.size + 1 by simp] at this
    exact this
  · unfold Hid
    rw [hb.block _ (by omega), Below.heap_alloc _ _ _ (by simp)]
    exact heap_alloc_last w (.cells #[x0, x1] t1)
theorem own_slice {w : World} {base m : Nat} {v : Value} {p : List ByteArray} (HM : Hid (m = p.length)) (h : Hid (OwnS w base v p)) : ∃ a c, v = .slice a m c := by
  obtain ⟨a, c, hv, _⟩ := h.out.strs
  rw [← HM.out] at hv
  exact ⟨a, c, hv⟩
theorem addOk_no' (n : Int) (p : List ByteArray) (t : ByteArray) (h : ¬ addOk n p t = true) : rngB n p = true → n < 1000000 → ¬ t.size ≤ 100 := fun h1 h2 h3 => h (addOk_yes n p t h1 h2 h3)

set_option maxRecDepth 100000 in
set_option maxHeartbeats 4000000 in
theorem add_impl_no (n : Int) (p : List ByteArray) (t : ByteArray) (b off cap B : Nat) (w : World) (hp : p.length ≤ 1048576) (ht : t.size ≤ maxLen) (hs : Strs w B (some ⟨b, off, none⟩) p) (hB : B ≤ w.heap.size) (hbig : ¬ 8000 < t.size) (hno : ¬ addOk n p t = true) :
    Calls Tryd.prog 33 #[.agg #[.int .i64 n, .slice (some ⟨b, off, none⟩) p.length cap], .string t] w fun e w' => ∃ v, e = .returned (.agg #[.int .i64 (addN n p t), v]) ∧ OwnS w' w.heap.size v (addR n p t) ∧ Below w.heap.size w w' := by
  obtain ⟨e1, e2⟩ := add_no n p t hbig hno
  rw [e1, e2]
  clear e1 e2
  unfold maxLen at ht
  obtain ⟨i0, hif, hz0, hz1, hz2⟩ := info_parts Tryd.infoS9
  have HRt := hideT (fun (W : World) (hW : Below w.heap.size w W) => rng_impl n p (some ⟨b, off, none⟩) cap B W hp (hs.after hW hB) (Nat.le_trans hB hW.size))
  have HCe : Hid (∀ W : World, Below w.heap.size w W → ∀ j (h : j < p.length), W.cell? ⟨b, off + j, none⟩ = some (.string p[j])) := fun W hW j h => by
    obtain ⟨b', off', hh, hb', hc'⟩ := (hs.after hW hB).some (by omega)
    simp at hh
    obtain ⟨rfl, rfl⟩ := hh
    exact hc' j h
  clear hs
  obtain ⟨m, hm⟩ : ∃ m, m = p.length := ⟨_, rfl⟩
  have HM := hideT hm
  rw [← hm] at hp HRt ⊢
  clear hm
  go_enter Tryd.func33, Tryd.ntmps33
  go_wp2_with (at_builtin; refine wpList_append_own _ rfl _ (.tmp 15) 33 rfl (w.heap.size + 2) 9 i0 (.string ⟨#[]⟩) 1 16 Tryd.underlying33 hif hz0 hz1 hz2 rfl (by decide) (.slice none 0 0) 0 [] rfl (World.ownsRow_nil _ _ _ _) ⟨b, off, none⟩ m cap (p.map Value.string) rfl (by rw [map_len1, ← HM.out]) (map_cell1 (HCe.out _ (((Below.refl _ _).alloc (Nat.le_refl _) _).alloc (by simp) _))) (map_one1 p) ?c3 ?c4 ?c5 ?_; (case c3 => unfold maxLen; omega); (case c4 => omega); (case c5 => simp); intro v1 w3 hown3 hgrow3 _; obtain ⟨HO3, HB3, HBl3, HBl30⟩ := grown_two HM hown3 hgrow3; obtain ⟨a1, c1, hv1⟩ := own_slice HM HO3; clear hown3 hgrow3; subst v1; have c20 := cell_of_row w3 _ 0 _ _ _ HBl30.out; have c21 := cell_of_row w3 _ 1 _ _ _ HBl30.out; simp at c20 c21)
  refine (HRt.out _ HB3.out).mono ?_
  rintro e w4 ⟨rfl, hb4⟩
  have HO4 := hideT (HO3.out.below hb4)
  have HB4 := hideT (below2 HB3.out hb4)
  have hl3 := HB3.out.size
  have d1 := (hb4.block (w.heap.size + 1) (lt_of_row HBl3.out)).trans HBl3.out
  have d0 := (hb4.block w.heap.size (lt_of_row HBl30.out)).trans HBl30.out
  have c10 := cell_of_row w4 _ 0 _ _ _ d1
  have c11 := cell_of_row w4 _ 1 _ _ _ d1
  have z10 := frozen_of_row w4 _ 0 _ _ d1
  have z11 := frozen_of_row w4 _ 1 _ _ d1
  have c00 := cell_of_row w4 _ 0 _ _ _ d0
  have c01 := cell_of_row w4 _ 1 _ _ _ d0
  simp at c10 c11 c00 c01
  clear d1 d0 hb4 c20 c21
  have HF := hideT (addOk_no' n p t hno)
  clear hno
  cases hr : rngB n p with
  | false =>
    go_wp2_with fail
    refine bodyPost_ret (v := .agg #[.int .i64 n, .slice a1 m c1]) (by simp [results, Tryd.results33, go_sem, c10, c11]) rfl ⟨.slice a1 m c1, rfl, OwnS.mono (own_set_low (own_set_low HO4.out _ _ (by simp)) _ _ (by simp)) (by omega), (HB4.out.setCell (by simp) _).setCell (by simp) _⟩
  | true =>
    by_cases h1 : n = 1000000
    · subst h1
      go_wp2_with fail
      refine bodyPost_ret (v := .agg #[.int .i64 1000000, .slice a1 m c1]) (by simp [results, Tryd.results33, go_sem, c10, c11]) rfl ⟨.slice a1 m c1, rfl, OwnS.mono (own_set_low (own_set_low HO4.out _ _ (by simp)) _ _ (by simp)) (by omega), (HB4.out.setCell (by simp) _).setCell (by simp) _⟩
    · have h2 := HF.out hr (by have := (rngB_facts n p hr).2.1; omega)
      have h3 : (100 : Int) < (t.size : Int) := by omega
      have h4 : (n == (1000000 : Int)) = false := by simp; omega
      go_wp2_with fail
      refine bodyPost_ret (v := .agg #[.int .i64 n, .slice a1 m c1]) (by simp [results, Tryd.results33, go_sem, c10, c11]) rfl ⟨.slice a1 m c1, rfl, OwnS.mono (own_set_low (own_set_low HO4.out _ _ (by simp)) _ _ (by simp)) (by omega), (HB4.out.setCell (by simp) _).setCell (by simp) _⟩

end Go.Proofs.YteiicafjjcnioaaDoor.Tr
