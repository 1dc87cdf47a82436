/- Texts put together: HuTrees, HuConcat, HuDeep, HuMid. -/
import Derived.Test.YtjdlgpnhkfdehaaGreatDoorBu7
import Derived.Shelf.Spec.SlicesGrow
/- The walk of treesOf. -/
namespace Go.Proofs.YtjdlgpnhkfdehaaGreatDoor.Hf
open Go.RowKit
open Go.Proofs.YtjdlgpnhkfdehaaGreatDoor.In (IsI irow Ints made_ints)
theorem two_new (W : World) (x y : Value) (t : TypeId) : ∀ (j : Nat) (u : Value), [x, y][j]? = some u → (W.alloc (.cells #[x, y] t)).cell? ((⟨W.heap.size, 0, none⟩ : Addr).add j) = some u := by
  intro j u hj
  match j, hj with
  | 0, hj => simp at hj; subst hj; simp [Addr.add]
  | 1, hj => simp at hj; subst hj; simp [Addr.add]
theorem two_one {x y : Value} (hx : x.oneCell' = true) (hy : y.oneCell' = true) : ∀ u ∈ [x, y], u.oneCell' = true := by
  intro u hu
  simp at hu
  rcases hu with rfl | rfl
  · exact hx
  · exact hy
theorem Keeps.grown {W W' : World} {row : Option Nat} (h : W.grownBy W' row) (hr : ∀ k, row = some k → ∃ cs t, W.heap[k]? = some (.cells cs t (0, 0)) ∧ t ≠ 3) : Keeps W W' := fun g cur e => by
  rw [h.block g (lt_row e) (by
    intro hg
    obtain ⟨cs, t, hk, ht⟩ := hr g hg.symm
    rw [hk] at e
    simp at e
    exact ht e.2)]
  exact e
theorem OwnT.rowT {W : World} {e : TypeId} {base : Nat} {v : Value} {m : List MT} (h : OwnT W e base v m) (he : e ≠ 3) : ∀ k, v.ownBlock = some k → ∃ cs t, W.heap[k]? = some (.cells cs t (0, 0)) ∧ t ≠ 3 := by
  intro k hk
  obtain ⟨_, h⟩ := h
  rcases h with ⟨h, _⟩ | ⟨g, cap, cur, hv, _, hb, _⟩
  · subst h
    simp [Value.ownBlock] at hk
  · subst hv
    simp [Value.ownBlock] at hk
    subst hk
    exact ⟨cur, e, hb, he⟩
theorem OwnT.alloc {W : World} {e : TypeId} {base : Nat} {v : Value} {m : List MT} (h : OwnT W e base v m) (o : Obj) : OwnT (W.alloc o) e base v m := World.ownsRow.alloc h o
theorem OwnT.snoc {W : World} {e : TypeId} {base : Nat} {v : Value} {m : List MT} {x : MT} (h : W.ownsRow base e 2 v (m.length + 1) (cells m ++ [.int .i64 (x.1.1 : Nat), x.2])) : OwnT W e base v (m ++ [x]) := by
  unfold OwnT
  rw [List.length_append, cells_append]
  exact h
theorem Sym.one (W : World) (j : Nat) : Sym (W.alloc (.cells #[.int .i64 (j : Nat)] 3)) (.slice (some ⟨W.heap.size, 0, none⟩) 1 1) [j] :=
  ⟨W.heap.size, 1, _, rfl, heap_alloc_new W _, Nat.le_refl _, fun i hi => by
    have : i = 0 := by simpa using hi
    subst this
    rfl⟩
theorem trees_yes (c : List Nat) (j : Nat) (h : j < c.length) (h0 : 0 < c[j]) : trees c (j + 1) = trees c j ++ [(c[j], [j])] := by
  have : c.getD j 0 = c[j] := by rw [List.getD_eq_getElem?_getD, List.getElem?_eq_getElem h]; rfl
  rw [trees, this, if_pos h0]
theorem trees_no (c : List Nat) (j : Nat) (h : j < c.length) (h0 : ¬ 0 < c[j]) : trees c (j + 1) = trees c j := by
  have : c.getD j 0 = c[j] := by rw [List.getD_eq_getElem?_getD, List.getElem?_eq_getElem h]; rfl
  rw [trees, this, if_neg h0]
set_option maxRecDepth 100000 in
set_option maxHeartbeats 1000000 in
theorem treesOf_any (a : Option Addr) (cap n : Nat) (c : List Nat) (w : World) (h : Ints w w.heap.size a (up c)) (hn : c.length = n) (h257 : n ≤ 257) :
    Calls Tryz.prog 202 #[.slice a n cap] w fun e w' => ∃ v m, e = .returned v ∧ mt m = trees c n ∧ OwnT w' 216 w.heap.size v m ∧ Syms w' m ∧ Below w.heap.size w w' := by
  obtain ⟨i0, hi, hz0, hz1, hz2⟩ := info_parts Tryz.infoTree
  have HN := hideH hn
  have HS := hideH h
  clear hn h
  go_enter Tryz.func202, Tryz.ntmps202
  go_wp2_with fail
  go_loopw [8, 3, 4, 5] (fun iv tv _ _ wr => ∃ (j : Nat) (m : List MT), iv = .int .i64 j ∧ j ≤ n ∧ mt m = trees c j ∧ OwnT wr 216 w.heap.size tv m ∧ Syms wr m ∧ Below w.heap.size w wr) (fun iv _ _ _ _ => n - (intOf iv).toNat)
  case atStart => exact ⟨0, [], rfl, Nat.zero_le _, rfl, World.ownsRow_nil _ _ _ _, fun x hx => absurd hx (List.not_mem_nil), Below.refl _ _⟩
  case round =>
    obtain ⟨j, m, rfl, hj, hm, ho, hy, hbw⟩ := hrel
    have HM := hideH hm
    have HO := hideH ho
    have HY := hideH hy
    have HBW := hideH hbw
    have hwz := hbw.size
    have hml : m.length ≤ j := by rw [← mt_length, hm]; exact trees_length c j
    clear hm ho hy hbw
    by_cases hlt : j < n
    · have hjc : j < c.length := by rw [HN.out]; exact hlt
      obtain ⟨b, off, rfl, hbz, hcl⟩ := HS.out.some (by rw [up_length]; omega)
      have ci : wr.cell? ⟨b, off + j, none⟩ = some (.int .i64 (c[j] : Nat)) := (HBW.out.cell (p := ⟨b, off + j, none⟩) hbz).trans (up_get hcl j hjc)
      have HT1 := hideH (trees_yes c j hjc)
      have HT0 := hideH (trees_no c j hjc)
      generalize c[j] = cj at ci HT1 HT0
      clear hcl hjc
      by_cases h0 : 0 < cj
      · have h0' : (0 : Int) < (cj : Int) := by omega
        go_wp2_with (at_builtin; refine wpList_append_own _ rfl (.tmp 15) (.tmp 20) 212 rfl w.heap.size 216 i0 _ 2 32 Tryz.underlying212 hi hz0 hz1 hz2 rfl (by decide) _ _ _ rfl ((HO.out.alloc _).alloc _) ⟨wr.heap.size + 1, 0, none⟩ 1 1 [.int .i64 (cj : Nat), .slice (some ⟨wr.heap.size, 0, none⟩) 1 1] rfl rfl ?c1 (two_one rfl rfl) (by unfold maxLen; omega) (by omega) (by simp; omega) ?_)
        case c1 =>
          have := two_new (wr.alloc (.cells #[.int .i64 (j : Nat)] 3)) (.int .i64 (cj : Nat)) (.slice (some ⟨wr.heap.size, 0, none⟩) 1 1) 216
          simpa using this
        intro v' w2 hown hgrow _
        have HO2 := hideH (OwnT.snoc (x := ((cj, [j]), .slice (some ⟨wr.heap.size, 0, none⟩) 1 1)) hown)
        have HB2 : Hid (Below w.heap.size w w2) := by
          refine ((HBW.out.alloc hwz _).alloc (by simp; omega) _).grown hgrow (by simp; omega) ?_
          intro k hk
          exact (World.ownsRow.lt HO.out k hk).1
        have hk1 : Keeps wr (wr.alloc (.cells #[.int .i64 (j : Nat)] 3)) := Keeps.below ((Below.refl _ _).alloc (Nat.le_refl _) _)
        have hk2 := hk1.trans (Keeps.below ((Below.refl _ (wr.alloc (.cells #[.int .i64 (j : Nat)] 3))).alloc (Nat.le_refl _) (.cells #[.int .i64 (cj : Nat), .slice (some ⟨wr.heap.size, 0, none⟩) 1 1] 216)))
        have hk3 := Keeps.grown hgrow (((HO.out.alloc _).alloc _).rowT (by decide))
        have HY2 : Hid (Syms w2 (m ++ [((cj, [j]), .slice (some ⟨wr.heap.size, 0, none⟩) 1 1)])) := by
          intro x hx
          rcases List.mem_append.1 hx with hx | hx
          · exact (HY.out x hx).keeps (hk2.trans hk3)
          · rw [List.mem_singleton.1 hx]
            exact ((Sym.one wr j).keeps (Keeps.below ((Below.refl _ _).alloc (Nat.le_refl _) _))).keeps hk3
        clear hown hgrow hk1 hk2 hk3
        go_wp2_with fail
        go_roundw
        case rel => exact ⟨j + 1, m ++ [((cj, [j]), .slice (some ⟨wr.heap.size, 0, none⟩) 1 1)], by go_num, by omega, by rw [HT1.out h0, ← HM.out]; unfold mt; rw [List.map_append]; rfl, HO2.out, HY2.out, HB2.out⟩
        case measure => simp [intOf]; omega
      · have h0' : cj = 0 := by omega
        subst h0'
        go_wp2_with fail
        go_roundw
        case rel => exact ⟨j + 1, m, by go_num, by omega, by rw [HT0.out h0]; exact HM.out, HO.out, HY.out, HBW.out⟩
        case measure => simp [intOf]; omega
    · obtain rfl : j = n := by omega
      go_wp2_with fail
      go_ret
      exact ⟨_, m, rfl, HM.out, HO.out, HY.out, HBW.out⟩
end Go.Proofs.YtjdlgpnhkfdehaaGreatDoor.Hf


/- The walk of slices.Concat of two rows of symbols. -/
namespace Go.Proofs.YtjdlgpnhkfdehaaGreatDoor.Hf
open Go.RowKit Go.Shelf
shelf_lay_g Lays8.n4 Nm8 4 at Tryz 237 as Tryz.growI
theorem Tryz.infoInt : (Tryz.prog.info? 3).map (fun i => (i.zero, i.size, i.bytes)) = some (some (.int .i64 0), 1, 8) := by kernel_rfl
def nums (s : List Nat) : List Value := s.map fun (x : Nat) => Value.int .i64 (x : Int)
def OwnY (W : World) (base : Nat) (v : Value) (s : List Nat) : Prop := W.ownsRow base 3 1 v s.length (nums s)
theorem grow_any (n : Nat) (w : World) (h0 : 0 < n) (hn : n ≤ 1000) :
    Calls Tryz.prog 237 #[.slice none 0 0, .int .i64 n] w fun e w' => ∃ v, e = .returned v ∧ OwnY w' w.heap.size v [] ∧ Below w.heap.size w w' := by
  obtain ⟨i0, hi, hz0, hz1, hz2⟩ := info_parts Tryz.infoInt
  refine (Any8.slices_Grow_grow Tryz.growI i0 (.int .i64 0) hi hz0 (by rw [hz1]; decide) none 0 0 n [] w (Nat.le_refl _) (by omega) (by rw [hz2]; omega) (by omega) (by simp) (fun _ => rfl) (fun a ha => by cases ha)).mono ?_
  rintro e w' ⟨rfl, rfl⟩
  have hge := grownCap_ge w (0 + n) 0 (Tryz.growI_ren.t 25)
  have hle := grownCap_le_maxLen w (0 + n) 0 (Tryz.growI_ren.t 25) (by unfold maxLen; omega)
  refine ⟨_, rfl, ?_, (Below.refl _ _).drew.alloc (Nat.le_refl _) _⟩
  exact World.ownsRow_made w.drew _ _ (Nat.le_refl _) hle (by
    have hc1 : (Value.int IntKind.i64 0).cells.size = 1 := rfl
    rw [Nat.zero_add] at hge
    simp [Builtin.zeroCells, hc1]
    omega)
theorem nums_length (s : List Nat) : (nums s).length = s.length := List.length_map ..
theorem nums_one (s : List Nat) : ∀ u ∈ nums s, u.oneCell' = true := by
  intro u hu
  obtain ⟨x, _, rfl⟩ := List.mem_map.1 hu
  rfl
theorem Sym.news {W : World} {g : Nat} {s : List Nat} (hc : ∀ j (h : j < s.length), W.cell? ⟨g, j, none⟩ = some (.int .i64 (s[j] : Nat))) : ∀ j u, (nums s)[j]? = some u → W.cell? ((⟨g, 0, none⟩ : Addr).add j) = some u := by
  intro j u hu
  have hj : j < s.length := by
    have := (List.getElem?_eq_some_iff.1 hu).1
    rwa [nums_length] at this
  unfold nums at hu
  rw [List.getElem?_map, List.getElem?_eq_getElem hj] at hu
  rw [Addr.add_lit, Nat.zero_add, hc j hj]
  exact hu
theorem OwnY.sym {W : World} {base : Nat} {v : Value} {s : List Nat} (h : OwnY W base v s) (h0 : 0 < s.length) : Sym W v s := by
  obtain ⟨_, h⟩ := h
  rcases h with ⟨_, h⟩ | ⟨g, cap, cur, hv, _, hb, hn, _, hs, ht⟩
  · omega
  · refine ⟨g, cap, cur, hv, hb, hn, fun j hj => ?_⟩
    have : (nums s)[j]? = some (.int .i64 (s[j] : Nat)) := by
      unfold nums
      rw [List.getElem?_map, List.getElem?_eq_getElem hj]
      rfl
    rw [← ht, List.getElem?_take_of_lt (by omega), Array.getElem?_toList] at this
    exact this
theorem OwnY.app {W : World} {base : Nat} {v : Value} {s t : List Nat} (h : W.ownsRow base 3 1 v (s.length + t.length) (nums s ++ nums t)) : OwnY W base v (s ++ t) := by
  unfold OwnY
  rw [List.length_append]
  unfold nums at h ⊢
  rw [List.map_append]
  exact h
def tot (a b : List Nat) (i : Nat) : Nat := if i = 0 then 0 else if i = 1 then a.length else a.length + b.length
def pre (a b : List Nat) (i : Nat) : List Nat := if i = 0 then [] else if i = 1 then a else a ++ b
set_option maxRecDepth 100000 in
set_option maxHeartbeats 1000000 in
theorem concat_any (gb ga ca gc cc : Nat) (a b : List Nat) (t : TypeId) (w : World) (h0 : 0 < a.length) (ha : a.length ≤ 257) (hb : b.length ≤ 257) (hg : w.heap[gb]? = some (.cells #[.slice (some ⟨ga, 0, none⟩) a.length ca, .slice (some ⟨gc, 0, none⟩) b.length cc] t (0, 0)))
    (hga : ga < w.heap.size) (hgc : gc < w.heap.size) (hca : ∀ j (h : j < a.length), w.cell? ⟨ga, j, none⟩ = some (.int .i64 (a[j] : Nat))) (hcc : ∀ j (h : j < b.length), w.cell? ⟨gc, j, none⟩ = some (.int .i64 (b[j] : Nat))) :
    Calls Tryz.prog 204 #[.slice (some ⟨gb, 0, none⟩) 2 2] w fun e w' => ∃ v, e = .returned v ∧ Sym w' v (a ++ b) ∧ Below w.heap.size w w' := by
  obtain ⟨i0, hi, hz0, hz1, hz2⟩ := info_parts Tryz.infoInt
  have hgb := lt_row hg
  have c0 : w.cell? ⟨gb, 0, none⟩ = some (.slice (some ⟨ga, 0, none⟩) a.length ca) := cell_of_row w _ 0 _ _ _ hg
  have c1 : w.cell? ⟨gb, 1, none⟩ = some (.slice (some ⟨gc, 0, none⟩) b.length cc) := cell_of_row w _ 1 _ _ _ hg
  have HC0 := hideH (fun (W : World) (h : Below w.heap.size w W) => (h.cell (p := ⟨gb, 0, none⟩) hgb).trans c0)
  have HC1 := hideH (fun (W : World) (h : Below w.heap.size w W) => (h.cell (p := ⟨gb, 1, none⟩) hgb).trans c1)
  have HNA := hideH (fun (W : World) (h : Below w.heap.size w W) => Sym.news (W := W) (g := ga) (s := a) fun j hj => (h.cell (p := ⟨ga, j, none⟩) hga).trans (hca j hj))
  have HNB := hideH (fun (W : World) (h : Below w.heap.size w W) => Sym.news (W := W) (g := gc) (s := b) fun j hj => (h.cell (p := ⟨gc, j, none⟩) hgc).trans (hcc j hj))
  have HLA := hideH (nums_length a)
  have HLB := hideH (nums_length b)
  have HFIN := hideH (fun (W : World) v (h : OwnY W w.heap.size v (a ++ b)) => h.sym (by rw [List.length_append]; omega))
  have HT1 : Hid (tot a b 1 = a.length) := rfl
  have HT2 : Hid (tot a b 2 = a.length + b.length) := rfl
  clear hg hca hcc
  obtain ⟨na, hna⟩ : ∃ na, na = a.length := ⟨_, rfl⟩
  obtain ⟨nb, hnb⟩ : ∃ nb, nb = b.length := ⟨_, rfl⟩
  have EA := hideH hna
  have EB := hideH hnb
  rw [← hna] at h0 ha c0 HC0 HT1 HT2
  rw [← hnb] at hb c1 HC1 HT2
  clear hna hnb
  go_enter Tryz.func204, Tryz.ntmps204
  go_wp2_with fail
  go_loopw [11, 3, 5] (fun iv sv _ wr => ∃ i : Nat, iv = .int .i64 i ∧ i ≤ 2 ∧ sv = .int .i64 (tot a b i : Nat) ∧ wr = w) (fun iv _ _ _ => 2 - (intOf iv).toNat)
  case atStart => exact ⟨0, rfl, by omega, rfl, rfl⟩
  case round =>
    obtain ⟨i, rfl, hi2, rfl, hw⟩ := hrel
    subst wr
    have h3 : i = 0 ∨ i = 1 ∨ i = 2 := by omega
    rcases h3 with rfl | rfl | rfl
    · have HE : Hid (tot a b 0 = 0) := rfl
      rw [HE.out]
      have hx : decide ((na : Int) < 0) = false := by simp
      go_wp2_with fail
      go_roundw
      case rel => exact ⟨1, rfl, by omega, by rw [HT1.out], by trivial⟩
      case measure => simp [intOf]
    · rw [HT1.out]
      have hx : decide ((na : Int) + nb < 0) = false := by simp; omega
      go_wp2_with fail
      go_roundw
      case rel => exact ⟨2, rfl, by omega, by rw [HT2.out]; first | rfl | simp, by trivial⟩
      case measure => simp [intOf]
    · rw [HT2.out]
      have hsz : ((na + nb : Nat) : Int) = (na : Int) + nb := by omega
      go_wp2_with fail
      refine (grow_any (na + nb) _ (by omega) (by omega)).mono ?_
      rintro e w1 ⟨v1, rfl, ho1, hb1⟩
      have HO1 := hideH ho1
      have HB1 := hideH hb1
      clear ho1 hb1
      go_wp2_with fail
      go_loopw [27, 6, 8] (fun iv tv _ wr => ∃ i : Nat, iv = .int .i64 i ∧ i ≤ 2 ∧ OwnY wr w.heap.size tv (pre a b i) ∧ Below w.heap.size w wr) (fun iv _ _ _ => 2 - (intOf iv).toNat)
      case atStart => exact ⟨0, rfl, by omega, HO1.out, HB1.out⟩
      case round =>
        obtain ⟨i, rfl, hi2, ho, hbw⟩ := hrel
        have HO := hideH ho
        have HBW := hideH hbw
        clear ho hbw
        have h3 : i = 0 ∨ i = 1 ∨ i = 2 := by omega
        rcases h3 with rfl | rfl | rfl
        · skip
          have HE : Hid (OwnY wr w.heap.size u6 []) := HO.out
          have ci := HC0.out wr HBW.out
          have hwz := HBW.out.size
          go_wp2_with (at_builtin; refine wpList_append_own _ rfl (.tmp 31) (.tmp 32) 214 rfl w.heap.size 3 i0 (.int .i64 0) 1 8 Tryz.underlying214 hi hz0 hz1 hz2 rfl (by decide) _ _ _ rfl HE.out ⟨ga, 0, none⟩ na ca (nums a) rfl (by rw [HLA.out, ← EA.out]; omega) (HNA.out wr HBW.out) (nums_one _) (by unfold maxLen; simp only [List.length_nil]; omega) (by simp only [List.length_nil]; omega) hwz ?_)
          intro v' w2 hown hgrow _
          have HO2 : Hid (OwnY w2 w.heap.size v' ([] ++ a)) := by
            rw [EA.out] at hown
            exact OwnY.app (s := []) (by rw [List.length_nil, Nat.zero_add]; exact hown)
          have HB2 : Hid (Below w.heap.size w w2) := by
            refine HBW.out.grown hgrow hwz ?_
            intro k hk
            exact (World.ownsRow.lt HE.out k hk).1
          clear hown hgrow
          go_wp2_with fail
          go_roundw
          case rel => exact ⟨1, rfl, by omega, HO2.out, HB2.out⟩
          case measure => simp [intOf]
        · skip
          have HE : Hid (OwnY wr w.heap.size u6 a) := HO.out
          have ci := HC1.out wr HBW.out
          have hwz := HBW.out.size
          go_wp2_with (at_builtin; refine wpList_append_own _ rfl (.tmp 31) (.tmp 32) 214 rfl w.heap.size 3 i0 (.int .i64 0) 1 8 Tryz.underlying214 hi hz0 hz1 hz2 rfl (by decide) _ _ _ rfl HE.out ⟨gc, 0, none⟩ nb cc (nums b) rfl (by rw [HLB.out, ← EB.out]; omega) (HNB.out wr HBW.out) (nums_one _) (by unfold maxLen; rw [← EA.out]; omega) (by rw [← EA.out]; omega) hwz ?_)
          intro v' w2 hown hgrow _
          have HO2 : Hid (OwnY w2 w.heap.size v' (a ++ b)) := by
            rw [EB.out] at hown
            exact OwnY.app hown
          have HB2 : Hid (Below w.heap.size w w2) := by
            refine HBW.out.grown hgrow hwz ?_
            intro k hk
            exact (World.ownsRow.lt HE.out k hk).1
          clear hown hgrow
          go_wp2_with fail
          go_roundw
          case rel => exact ⟨2, rfl, by omega, HO2.out, HB2.out⟩
          case measure => simp [intOf]
        · have HE : Hid (OwnY wr w.heap.size u6 (a ++ b)) := HO.out
          go_wp2_with fail
          go_ret
          exact ⟨_, rfl, HFIN.out _ _ HE.out, HBW.out⟩
end Go.Proofs.YtjdlgpnhkfdehaaGreatDoor.Hf


/- What the walks of depthsOf and l04Lengths want of the plain mathematics. -/
namespace Go.Proofs.YtjdlgpnhkfdehaaGreatDoor.Hf
open Go.RowKit
open Go.Proofs.YtjdlgpnhkfdehaaGreatDoor.In (IsI irow Ints made_ints)
def ns (l : List Tree) : Nat := (l.map fun t => t.2.length).sum
theorem ns_perm {l l' : List Tree} (p : l.Perm l') : ns l = ns l' := (p.map _).sum_nat
theorem ns_join (l : List Tree) (h : 2 ≤ l.length) : ns (join l) = ns l := by
  rw [ns_perm (two_perm l h), ns_perm (join_perm l)]
  unfold ns both
  simp only [List.map_cons, List.sum_cons, List.length_append]
  omega
theorem ns_trees (c : List Nat) : ∀ i, ns (trees c i) ≤ i
  | 0 => Nat.le_refl _
  | i + 1 => by
    have := ns_trees c i
    rw [trees]
    split
    · unfold ns at this ⊢
      rw [List.map_append, List.sum_append]
      simp
      exact this
    · omega
theorem ns_mem (l : List Tree) (t : Tree) (h : t ∈ l) : t.2.length ≤ ns l := le_sum _ _ (List.mem_map.2 ⟨t, h, rfl⟩)
theorem fib_ge : ∀ k, k + 1 ≤ fib (k + 2)
  | 0 => by decide
  | 1 => by decide
  | k + 2 => by
    have h1 := fib_ge k
    have h2 := fib_ge (k + 1)
    rw [show fib (k + 2 + 2) = fib (k + 2) + fib (k + 1 + 2) from rfl]
    omega
theorem Inv.small {l : List Tree} {d : List Nat} {n : Nat} (h : Inv l d n) (s : Nat) : d.getD s 0 ≤ n := by
  rcases h.bound s with h | h
  · unfold dep at h
    omega
  · have := fib_ge (dep d s)
    unfold dep at h this
    omega
theorem Inv.weights {l : List Tree} {d : List Nat} {n : Nat} (h : Inv l d n) (h2 : 2 ≤ l.length) : (first l).1 + (second l).1 ≤ n := by
  have := (h.perm (two_perm l h2)).sum
  simp only [List.map_cons, List.sum_cons] at this
  omega
theorem taken (m : List MT) (k : Nat) (hn : m.length = k + 1) : ∃ x, m[least (mt m) (k + 1)]? = some x ∧ x ∈ m ∧ x.1 = first (mt m) ∧ mt (m.eraseIdx (least (mt m) (k + 1))) = rest1 (mt m) ∧ (m.eraseIdx (least (mt m) (k + 1))).length = k ∧ ∀ y ∈ m.eraseIdx (least (mt m) (k + 1)), y ∈ m := by
  have hl : least (mt m) m.length < m.length := by
    have := least_lt (mt m) (by rw [mt_length]; omega)
    rw [mt_length] at this
    exact this
  rw [← hn]
  refine ⟨m[least (mt m) m.length], List.getElem?_eq_getElem hl, List.getElem_mem hl, first_mt m hl, rest_mt m, ?_, fun y hy => List.mem_of_mem_eraseIdx hy⟩
  rw [List.length_eraseIdx, if_pos hl]
  omega
theorem Syms.sub {W : World} {m k : List MT} (h : Syms W m) (hs : ∀ y ∈ k, y ∈ m) : Syms W k := fun x hx => h x (hs x hx)
theorem Keeps.wr {g gl : Nat} {w w' : World} (h : Wr g gl w w') {cs cl : Array Value} {t u : TypeId} (hg : w.heap[g]? = some (.cells cs t (0, 0))) (ht : t ≠ 3) (hl : w.heap[gl]? = some (.cells cl u (0, 0))) (hu : u ≠ 3) : Keeps w w' := fun k cur e => by
  rw [h.block k (lt_row e) (by
    rintro rfl
    rw [hg] at e
    simp at e
    exact ht e.2) (by
    rintro rfl
    rw [hl] at e
    simp at e
    exact hu e.2)]
  exact e
theorem OwnT.of {W : World} {e : TypeId} {base g cap n : Nat} {m : List MT} {cur : Array Value} (hn : m.length = n) (hg : base ≤ g) (hb : W.heap[g]? = some (.cells cur e (0, 0))) (hc : n ≤ cap) (hm : cap ≤ maxLen) (hs : cur.size = cap * 2) (ht : cur.toList.take (n * 2) = cells m) : OwnT W e base (.slice (some ⟨g, 0, none⟩) n cap) m := by
  subst hn
  exact ⟨cells_length m, .inr ⟨g, cap, cur, rfl, hg, hb, hc, hm, hs, ht⟩⟩
theorem OwnT.parts {W : World} {e : TypeId} {base : Nat} {v : Value} {m : List MT} (h : OwnT W e base v m) (h0 : 0 < m.length) : ∃ g cap cur, v = .slice (some ⟨g, 0, none⟩) m.length cap ∧ base ≤ g ∧ m.length ≤ cap ∧ cap ≤ maxLen ∧ W.heap[g]? = some (.cells cur e (0, 0)) ∧ cur.size = cap * 2 ∧ cur.toList.take (m.length * 2) = cells m := by
  obtain ⟨_, h⟩ := h
  rcases h with ⟨_, h⟩ | ⟨g, cap, cur, hv, hg, hb, hn, hm, hs, ht⟩
  · omega
  · exact ⟨g, cap, cur, hv, hg, hn, hm, hb, hs, ht⟩
theorem sum_all (c : List Nat) (hl : c.length ≤ 257) (hm : ∀ x ∈ c, x ≤ 10000) : c.sum ≤ 2570000 := by
  have := sum_le c 10000 hm
  omega
end Go.Proofs.YtjdlgpnhkfdehaaGreatDoor.Hf


/- Between the two takes of depthsOf. -/
namespace Go.Proofs.YtjdlgpnhkfdehaaGreatDoor.Hf
open Go.RowKit
open Go.Proofs.YtjdlgpnhkfdehaaGreatDoor.In (IsI irow Ints made_ints)
structure Mid (wr W : World) (g gl cap k : Nat) (m : List MT) (d : List Nat) (a5 b5 a6 b6 : Value) : Prop where
  row : ∃ cur : Array Value, W.heap[g]? = some (.cells cur 216 (0, 0)) ∧ cur.size = cap * 2 ∧ cur.toList.take (k * 2) = cells m
  len : IsI W gl 2 (up d)
  wrt : Wr g gl wr W
  kp : Keeps wr W
  p5 : W.heap[wr.heap.size]? = some (.cells #[a5, b5] 216 (0, 0))
  p6 : W.heap[wr.heap.size + 1]? = some (.cells #[a6, b6] 216 (0, 0))
  hg : g < wr.heap.size
  hl : gl < wr.heap.size
theorem Mid.start {wr : World} {g gl cap k : Nat} {m : List MT} {d : List Nat} {cur : Array Value} (hb : wr.heap[g]? = some (.cells cur 216 (0, 0))) (hs : cur.size = cap * 2) (ht : cur.toList.take (k * 2) = cells m) (hd : IsI wr gl 2 (up d)) :
    Mid wr ((wr.alloc (.cells #[.int .i64 0, .slice none 0 0] 216)).alloc (.cells #[.int .i64 0, .slice none 0 0] 216)) g gl cap k m d (.int .i64 0) (.slice none 0 0) (.int .i64 0) (.slice none 0 0) := by
  have hB : Below wr.heap.size wr ((wr.alloc (.cells #[.int .i64 0, .slice none 0 0] 216)).alloc (.cells #[.int .i64 0, .slice none 0 0] 216)) := ((Below.refl _ _).alloc (Nat.le_refl _) _).alloc (by simp) _
  refine ⟨⟨cur, (hB.block g (lt_row hb)).trans hb, hs, ht⟩, hd.below hB hd.lt, Wr.of hB, Keeps.below hB, (Below.heap_alloc _ _ _ (by simp)).trans (heap_alloc_new wr _), ?_, lt_row hb, hd.lt⟩
  have := heap_alloc_new (wr.alloc (.cells #[.int .i64 0, .slice none 0 0] 216)) (.cells #[.int .i64 0, .slice none 0 0] 216)
  rw [show (wr.alloc (.cells #[.int .i64 0, .slice none 0 0] 216)).heap.size = wr.heap.size + 1 by simp] at this
  exact this
theorem Mid.take {wr W W' : World} {g gl cap k k' : Nat} {m m' : List MT} {d d' : List Nat} {a5 b5 a6 b6 : Value} (h : Mid wr W g gl cap k m d a5 b5 a6 b6) (hr : ∃ cur : Array Value, W'.heap[g]? = some (.cells cur 216 (0, 0)) ∧ cur.size = cap * 2 ∧ cur.toList.take (k' * 2) = cells m') (hd : IsI W' gl 2 (up d')) (hw : Wr g gl W W') : Mid wr W' g gl cap k' m' d' a5 b5 a6 b6 := by
  obtain ⟨cur, hb, _⟩ := h.row
  have h1 := h.hg
  have h2 := h.hl
  exact ⟨hr, hd, h.wrt.trans hw, h.kp.trans (Keeps.wr hw hb (by decide) h.len (by decide)), (hw.block _ (lt_row h.p5) (by omega) (by omega)).trans h.p5, (hw.block _ (lt_row h.p6) (by omega) (by omega)).trans h.p6, h1, h2⟩
theorem Mid.set5 {wr W : World} {g gl cap k : Nat} {m : List MT} {d : List Nat} {a5 b5 a6 b6 : Value} (h : Mid wr W g gl cap k m d a5 b5 a6 b6) (x y : Value) : Mid wr ((W.setCell ⟨wr.heap.size, 0, none⟩ x).setCell ⟨wr.heap.size, 1, none⟩ y) g gl cap k m d x y a6 b6 := by
  obtain ⟨cur, hb, hs, ht⟩ := h.row
  have h1 := h.hg
  have h2 := h.hl
  have e1 := heap_setCell_same W wr.heap.size 0 _ _ x h.p5
  have e2 := heap_setCell_same _ wr.heap.size 1 _ _ y e1
  refine ⟨⟨cur, ?_, hs, ht⟩, (h.len.set_other _ _ (by show gl ≠ wr.heap.size; omega)).set_other _ _ (by show gl ≠ wr.heap.size; omega), (h.wrt.new (Nat.le_refl _) _ _).new (Nat.le_refl _) _ _, (h.kp.trans (Keeps.set h.p5 (by decide) _ _)).trans (Keeps.set e1 (by decide) _ _), e2, ?_, h1, h2⟩
  · rw [heap_setCell_other _ _ _ _ (by show g ≠ wr.heap.size; omega), heap_setCell_other _ _ _ _ (by show g ≠ wr.heap.size; omega)]
    exact hb
  · rw [heap_setCell_other _ _ _ _ (by show wr.heap.size + 1 ≠ wr.heap.size; omega), heap_setCell_other _ _ _ _ (by show wr.heap.size + 1 ≠ wr.heap.size; omega)]
    exact h.p6
theorem Mid.set6 {wr W : World} {g gl cap k : Nat} {m : List MT} {d : List Nat} {a5 b5 a6 b6 : Value} (h : Mid wr W g gl cap k m d a5 b5 a6 b6) (x y : Value) : Mid wr ((W.setCell ⟨wr.heap.size + 1, 0, none⟩ x).setCell ⟨wr.heap.size + 1, 1, none⟩ y) g gl cap k m d a5 b5 x y := by
  obtain ⟨cur, hb, hs, ht⟩ := h.row
  have h1 := h.hg
  have h2 := h.hl
  have e1 := heap_setCell_same W (wr.heap.size + 1) 0 _ _ x h.p6
  have e2 := heap_setCell_same _ (wr.heap.size + 1) 1 _ _ y e1
  refine ⟨⟨cur, ?_, hs, ht⟩, (h.len.set_other _ _ (by show gl ≠ wr.heap.size + 1; omega)).set_other _ _ (by show gl ≠ wr.heap.size + 1; omega), (h.wrt.new (by omega) _ _).new (by omega) _ _, (h.kp.trans (Keeps.set h.p6 (by decide) _ _)).trans (Keeps.set e1 (by decide) _ _), ?_, e2, h1, h2⟩
  · rw [heap_setCell_other _ _ _ _ (by show g ≠ wr.heap.size + 1; omega), heap_setCell_other _ _ _ _ (by show g ≠ wr.heap.size + 1; omega)]
    exact hb
  · rw [heap_setCell_other _ _ _ _ (by show wr.heap.size ≠ wr.heap.size + 1; omega), heap_setCell_other _ _ _ _ (by show wr.heap.size ≠ wr.heap.size + 1; omega)]
    exact h.p5
theorem Mid.below {wr W W' : World} {g gl cap k : Nat} {m : List MT} {d : List Nat} {a5 b5 a6 b6 : Value} (h : Mid wr W g gl cap k m d a5 b5 a6 b6) (hb : Below W.heap.size W W') : Mid wr W' g gl cap k m d a5 b5 a6 b6 := by
  obtain ⟨cur, hc, hs, ht⟩ := h.row
  exact ⟨⟨cur, (hb.block g (lt_row hc)).trans hc, hs, ht⟩, h.len.below hb h.len.lt, h.wrt.more hb, h.kp.trans (Keeps.below hb), (hb.block _ (lt_row h.p5)).trans h.p5, (hb.block _ (lt_row h.p6)).trans h.p6, h.hg, h.hl⟩
theorem Mid.cells5 {wr W : World} {g gl cap k : Nat} {m : List MT} {d : List Nat} {a5 b5 a6 b6 : Value} (h : Mid wr W g gl cap k m d a5 b5 a6 b6) : W.cell? ⟨wr.heap.size, 0, none⟩ = some a5 ∧ W.cell? ⟨wr.heap.size, 1, none⟩ = some b5 ∧ W.frozen? ⟨wr.heap.size, 0, none⟩ = false ∧ W.frozen? ⟨wr.heap.size, 1, none⟩ = false :=
  ⟨cell_of_row W _ 0 _ _ _ h.p5, cell_of_row W _ 1 _ _ _ h.p5, frozen_of_row W _ 0 _ _ h.p5, frozen_of_row W _ 1 _ _ h.p5⟩
theorem Mid.cells6 {wr W : World} {g gl cap k : Nat} {m : List MT} {d : List Nat} {a5 b5 a6 b6 : Value} (h : Mid wr W g gl cap k m d a5 b5 a6 b6) : W.cell? ⟨wr.heap.size + 1, 0, none⟩ = some a6 ∧ W.cell? ⟨wr.heap.size + 1, 1, none⟩ = some b6 ∧ W.frozen? ⟨wr.heap.size + 1, 0, none⟩ = false ∧ W.frozen? ⟨wr.heap.size + 1, 1, none⟩ = false :=
  ⟨cell_of_row W _ 0 _ _ _ h.p6, cell_of_row W _ 1 _ _ _ h.p6, frozen_of_row W _ 0 _ _ h.p6, frozen_of_row W _ 1 _ _ h.p6⟩
end Go.Proofs.YtjdlgpnhkfdehaaGreatDoor.Hf

