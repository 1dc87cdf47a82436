/- The walk of slices.Concat of two rows of symbols. -/
import Derived.Test.YtmkpakhpjgocjaaHuTrees
import Derived.Shelf.Spec.SlicesGrow
namespace Go.Proofs.Ytmkpakhpjgocjaa.Hf
open Go.RowKit Go.Shelf
shelf_lay_g Lays8.n4 Nm8 4 at Try 148 as Try.growI
theorem Try.infoInt : (Try.prog.info? 3).map (fun i => (i.zero, i.size, i.bytes)) = some (some (.int .i64 0), 1, 8) := by kernel_rfl
def nums (s : List Nat) : List Value := s.map fun (x : Nat) => Value.int .i64 (x : Int)
def OwnY (W : World) (base : Nat) (v : Value) (s : List Nat) : Prop := W.ownsRow base 3 1 v s.length (nums s)
theorem grow_any (n : Nat) (w : World) (h0 : 0 < n) (hn : n ≤ 1000) :
    Calls Try.prog 148 #[.slice none 0 0, .int .i64 n] w fun e w' => ∃ v, e = .returned v ∧ OwnY w' w.heap.size v [] ∧ Below w.heap.size w w' := by
  obtain ⟨i0, hi, hz0, hz1, hz2⟩ := info_parts Try.infoInt
  refine (Any8.slices_Grow_grow Try.growI i0 (.int .i64 0) hi hz0 (by rw [hz1]; decide) none 0 0 n [] w (Nat.le_refl _) (by omega) (by rw [hz2]; omega) (by omega) (by simp) (fun _ => rfl) (fun a ha => by cases ha)).mono ?_
  rintro e w' ⟨rfl, rfl⟩
  have hge := grownCap_ge w (0 + n) 0 (Try.growI_ren.t 25)
  have hle := grownCap_le_maxLen w (0 + n) 0 (Try.growI_ren.t 25) (by unfold maxLen; omega)
  refine ⟨_, rfl, ?_, (Below.refl _ _).drew.alloc (Nat.le_refl _) _⟩
  exact World.ownsRow_made w.drew _ _ (Nat.le_refl _) hle (by
    have hc1 : (Value.int IntKind.i64 0).cells.size = 1 := rfl
    rw [Nat.zero_add] at hge
    simp [Builtin.zeroCells, hc1]
    omega)
theorem nums_length (s : List Nat) : (nums s).length = s.length := List.length_map ..
theorem nums_one (s : List Nat) : ∀ u ∈ nums s, u.oneCell' = true := by
  intro u hu
  obtain ⟨x, _, rfl⟩ := List.mem_map.1 hu
  rfl
theorem Sym.news {W : World} {g : Nat} {s : List Nat} (hc : ∀ j (h : j < s.length), W.cell? ⟨g, j, none⟩ = some (.int .i64 (s[j] : Nat))) : ∀ j u, (nums s)[j]? = some u → W.cell? ((⟨g, 0, none⟩ : Addr).add j) = some u := by
  intro j u hu
  have hj : j < s.length := by
    have := (List.getElem?_eq_some_iff.1 hu).1
    rwa [nums_length] at this
  unfold nums at hu
  rw [List.getElem?_map, List.getElem?_eq_getElem hj] at hu
  rw [Addr.add_lit, Nat.zero_add, hc j hj]
  exact hu
theorem OwnY.sym {W : World} {base : Nat} {v : Value} {s : List Nat} (h : OwnY W base v s) (h0 : 0 < s.length) : Sym W v s := by
  obtain ⟨_, h⟩ := h
  rcases h with ⟨_, h⟩ | ⟨g, cap, cur, hv, _, hb, hn, _, hs, ht⟩
  · omega
  · refine ⟨g, cap, cur, hv, hb, hn, fun j hj => ?_⟩
    have : (nums s)[j]? = some (.int .i64 (s[j] : Nat)) := by
      unfold nums
      rw [List.getElem?_map, List.getElem?_eq_getElem hj]
      rfl
    rw [← ht, List.getElem?_take_of_lt (by omega), Array.getElem?_toList] at this
    exact this
theorem OwnY.app {W : World} {base : Nat} {v : Value} {s t : List Nat} (h : W.ownsRow base 3 1 v (s.length + t.length) (nums s ++ nums t)) : OwnY W base v (s ++ t) := by
  unfold OwnY
  rw [List.length_append]
  unfold nums at h ⊢
  rw [List.map_append]
  exact h
def tot (a b : List Nat) (i : Nat) : Nat := if i = 0 then 0 else if i = 1 then a.length else a.length + b.length
def pre (a b : List Nat) (i : Nat) : List Nat := if i = 0 then [] else if i = 1 then a else a ++ b

set_option maxRecDepth 100000 in
set_option maxHeartbeats 1000000 in
theorem concat_any (gb ga ca gc cc : Nat) (a b : List Nat) (t : TypeId) (w : World) (h0 : 0 < a.length) (ha : a.length ≤ 257) (hb : b.length ≤ 257) (hg : w.heap[gb]? = some (.cells #[.slice (some ⟨ga, 0, none⟩) a.length ca, .slice (some ⟨gc, 0, none⟩) b.length cc] t (0, 0)))
    (hga : ga < w.heap.size) (hgc : gc < w.heap.size) (hca : ∀ j (h : j < a.length), w.cell? ⟨ga, j, none⟩ = some (.int .i64 (a[j] : Nat))) (hcc : ∀ j (h : j < b.length), w.cell? ⟨gc, j, none⟩ = some (.int .i64 (b[j] : Nat))) :
    Calls Try.prog 125 #[.slice (some ⟨gb, 0, none⟩) 2 2] w fun e w' => ∃ v, e = .returned v ∧ Sym w' v (a ++ b) ∧ Below w.heap.size w w' := by
  obtain ⟨i0, hi, hz0, hz1, hz2⟩ := info_parts Try.infoInt
  have hgb := lt_row hg
  have c0 : w.cell? ⟨gb, 0, none⟩ = some (.slice (some ⟨ga, 0, none⟩) a.length ca) := cell_of_row w _ 0 _ _ _ hg
  have c1 : w.cell? ⟨gb, 1, none⟩ = some (.slice (some ⟨gc, 0, none⟩) b.length cc) := cell_of_row w _ 1 _ _ _ hg
  have HC0 := hideH (fun (W : World) (h : Below w.heap.size w W) => (h.cell (p := ⟨gb, 0, none⟩) hgb).trans c0)
  have HC1 := hideH (fun (W : World) (h : Below w.heap.size w W) => (h.cell (p := ⟨gb, 1, none⟩) hgb).trans c1)
  have HNA := hideH (fun (W : World) (h : Below w.heap.size w W) => Sym.news (W := W) (g := ga) (s := a) fun j hj => (h.cell (p := ⟨ga, j, none⟩) hga).trans (hca j hj))
  have HNB := hideH (fun (W : World) (h : Below w.heap.size w W) => Sym.news (W := W) (g := gc) (s := b) fun j hj => (h.cell (p := ⟨gc, j, none⟩) hgc).trans (hcc j hj))
  have HLA := hideH (nums_length a)
  have HLB := hideH (nums_length b)
  have HFIN := hideH (fun (W : World) v (h : OwnY W w.heap.size v (a ++ b)) => h.sym (by rw [List.length_append]; omega))
  have HT1 : Hid (tot a b 1 = a.length) := rfl
  have HT2 : Hid (tot a b 2 = a.length + b.length) := rfl
  clear hg hca hcc
  obtain ⟨na, hna⟩ : ∃ na, na = a.length := ⟨_, rfl⟩
  obtain ⟨nb, hnb⟩ : ∃ nb, nb = b.length := ⟨_, rfl⟩
  have EA := hideH hna
  have EB := hideH hnb
  rw [← hna] at h0 ha c0 HC0 HT1 HT2
  rw [← hnb] at hb c1 HC1 HT2
  clear hna hnb
  go_enter Try.func125, Try.ntmps125
  go_wp2_with fail
  go_loopw [11, 3, 5] (fun iv sv _ wr => ∃ i : Nat, iv = .int .i64 i ∧ i ≤ 2 ∧ sv = .int .i64 (tot a b i : Nat) ∧ wr = w) (fun iv _ _ _ => 2 - (intOf iv).toNat)
  case atStart => exact ⟨0, rfl, by omega, rfl, rfl⟩
  case round =>
    obtain ⟨i, rfl, hi2, rfl, hw⟩ := hrel
    subst wr
    have h3 : i = 0 ∨ i = 1 ∨ i = 2 := by omega
    rcases h3 with rfl | rfl | rfl
    · have HE : Hid (tot a b 0 = 0) := rfl
      rw [HE.out]
      have hx : decide ((na : Int) < 0) = false := by simp
      go_wp2_with fail
      go_roundw
      case rel => exact ⟨1, rfl, by omega, by rw [HT1.out], by trivial⟩
      case measure => simp [intOf]
    · rw [HT1.out]
      have hx : decide ((na : Int) + nb < 0) = false := by simp; omega
      go_wp2_with fail
      go_roundw
      case rel => exact ⟨2, rfl, by omega, by rw [HT2.out]; first | rfl | simp, by trivial⟩
      case measure => simp [intOf]
    · rw [HT2.out]
      have hsz : ((na + nb : Nat) : Int) = (na : Int) + nb := by omega
      go_wp2_with fail
      refine (grow_any (na + nb) _ (by omega) (by omega)).mono ?_
      rintro e w1 ⟨v1, rfl, ho1, hb1⟩
      have HO1 := hideH ho1
      have HB1 := hideH hb1
      clear ho1 hb1
      go_wp2_with fail
      go_loopw [27, 6, 8] (fun iv tv _ wr => ∃ i : Nat, iv = .int .i64 i ∧ i ≤ 2 ∧ OwnY wr w.heap.size tv (pre a b i) ∧ Below w.heap.size w wr) (fun iv _ _ _ => 2 - (intOf iv).toNat)
      case atStart => exact ⟨0, rfl, by omega, HO1.out, HB1.out⟩
      case round =>
        obtain ⟨i, rfl, hi2, ho, hbw⟩ := hrel
        have HO := hideH ho
        have HBW := hideH hbw
        clear ho hbw
        have h3 : i = 0 ∨ i = 1 ∨ i = 2 := by omega
        rcases h3 with rfl | rfl | rfl
        · skip
          have HE : Hid (OwnY wr w.heap.size u6 []) := HO.out
          have ci := HC0.out wr HBW.out
          have hwz := HBW.out.size
          go_wp2_with (at_builtin; refine wpList_append_own _ rfl (.tmp 31) (.tmp 32) 107 rfl w.heap.size 3 i0 (.int .i64 0) 1 8 Try.underlying107 hi hz0 hz1 hz2 rfl (by decide) _ _ _ rfl HE.out ⟨ga, 0, none⟩ na ca (nums a) rfl (by rw [HLA.out, ← EA.out]; omega) (HNA.out wr HBW.out) (nums_one _) (by unfold maxLen; simp only [List.length_nil]; omega) (by simp only [List.length_nil]; omega) hwz ?_)
          intro v' w2 hown hgrow _
          have HO2 : Hid (OwnY w2 w.heap.size v' ([] ++ a)) := by
            rw [EA.out] at hown
            exact OwnY.app (s := []) (by rw [List.length_nil, Nat.zero_add]; exact hown)
          have HB2 : Hid (Below w.heap.size w w2) := by
            refine HBW.out.grown hgrow hwz ?_
            intro k hk
            exact (World.ownsRow.lt HE.out k hk).1
          clear hown hgrow
          go_wp2_with fail
          go_roundw
          case rel => exact ⟨1, rfl, by omega, HO2.out, HB2.out⟩
          case measure => simp [intOf]
        · skip
          have HE : Hid (OwnY wr w.heap.size u6 a) := HO.out
          have ci := HC1.out wr HBW.out
          have hwz := HBW.out.size
          go_wp2_with (at_builtin; refine wpList_append_own _ rfl (.tmp 31) (.tmp 32) 107 rfl w.heap.size 3 i0 (.int .i64 0) 1 8 Try.underlying107 hi hz0 hz1 hz2 rfl (by decide) _ _ _ rfl HE.out ⟨gc, 0, none⟩ nb cc (nums b) rfl (by rw [HLB.out, ← EB.out]; omega) (HNB.out wr HBW.out) (nums_one _) (by unfold maxLen; rw [← EA.out]; omega) (by rw [← EA.out]; omega) hwz ?_)
          intro v' w2 hown hgrow _
          have HO2 : Hid (OwnY w2 w.heap.size v' (a ++ b)) := by
            rw [EB.out] at hown
            exact OwnY.app hown
          have HB2 : Hid (Below w.heap.size w w2) := by
            refine HBW.out.grown hgrow hwz ?_
            intro k hk
            exact (World.ownsRow.lt HE.out k hk).1
          clear hown hgrow
          go_wp2_with fail
          go_roundw
          case rel => exact ⟨2, rfl, by omega, HO2.out, HB2.out⟩
          case measure => simp [intOf]
        · have HE : Hid (OwnY wr w.heap.size u6 (a ++ b)) := HO.out
          go_wp2_with fail
          go_ret
          exact ⟨_, rfl, HFIN.out _ _ HE.out, HBW.out⟩
end Go.Proofs.Ytmkpakhpjgocjaa.Hf
