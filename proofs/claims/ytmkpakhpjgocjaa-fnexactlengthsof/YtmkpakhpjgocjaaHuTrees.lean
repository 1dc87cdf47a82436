/- The walk of treesOf. -/
import Derived.Test.YtmkpakhpjgocjaaHuFlat
namespace Go.Proofs.Ytmkpakhpjgocjaa.Hf
open Go.RowKit
open Go.Proofs.Ytmkpakhpjgocjaa.In (IsI irow Ints made_ints)

theorem two_new (W : World) (x y : Value) (t : TypeId) : ∀ (j : Nat) (u : Value), [x, y][j]? = some u → (W.alloc (.cells #[x, y] t)).cell? ((⟨W.heap.size, 0, none⟩ : Addr).add j) = some u := by
  intro j u hj
  match j, hj with
  | 0, hj => simp at hj; subst hj; simp [Addr.add]
  | 1, hj => simp at hj; subst hj; simp [Addr.add]
theorem two_one {x y : Value} (hx : x.oneCell' = true) (hy : y.oneCell' = true) : ∀ u ∈ [x, y], u.oneCell' = true := by
  intro u hu
  simp at hu
  rcases hu with rfl | rfl
  · exact hx
  · exact hy
theorem Keeps.grown {W W' : World} {row : Option Nat} (h : W.grownBy W' row) (hr : ∀ k, row = some k → ∃ cs t, W.heap[k]? = some (.cells cs t (0, 0)) ∧ t ≠ 3) : Keeps W W' := fun g cur e => by
  rw [h.block g (lt_row e) (by
    intro hg
    obtain ⟨cs, t, hk, ht⟩ := hr g hg.symm
    rw [hk] at e
    simp at e
    exact ht e.2)]
  exact e
theorem OwnT.rowT {W : World} {e : TypeId} {base : Nat} {v : Value} {m : List MT} (h : OwnT W e base v m) (he : e ≠ 3) : ∀ k, v.ownBlock = some k → ∃ cs t, W.heap[k]? = some (.cells cs t (0, 0)) ∧ t ≠ 3 := by
  intro k hk
  obtain ⟨_, h⟩ := h
  rcases h with ⟨h, _⟩ | ⟨g, cap, cur, hv, _, hb, _⟩
  · subst h
    simp [Value.ownBlock] at hk
  · subst hv
    simp [Value.ownBlock] at hk
    subst hk
    exact ⟨cur, e, hb, he⟩
theorem OwnT.alloc {W : World} {e : TypeId} {base : Nat} {v : Value} {m : List MT} (h : OwnT W e base v m) (o : Obj) : OwnT (W.alloc o) e base v m := World.ownsRow.alloc h o
theorem OwnT.snoc {W : World} {e : TypeId} {base : Nat} {v : Value} {m : List MT} {x : MT} (h : W.ownsRow base e 2 v (m.length + 1) (cells m ++ [.int .i64 (x.1.1 : Nat), x.2])) : OwnT W e base v (m ++ [x]) := by
  unfold OwnT
  rw [List.length_append, cells_append]
  exact h
theorem Sym.one (W : World) (j : Nat) : Sym (W.alloc (.cells #[.int .i64 (j : Nat)] 3)) (.slice (some ⟨W.heap.size, 0, none⟩) 1 1) [j] :=
  ⟨W.heap.size, 1, _, rfl, heap_alloc_new W _, Nat.le_refl _, fun i hi => by
    have : i = 0 := by simpa using hi
    subst this
    rfl⟩
theorem trees_yes (c : List Nat) (j : Nat) (h : j < c.length) (h0 : 0 < c[j]) : trees c (j + 1) = trees c j ++ [(c[j], [j])] := by
  have : c.getD j 0 = c[j] := by rw [List.getD_eq_getElem?_getD, List.getElem?_eq_getElem h]; rfl
  rw [trees, this, if_pos h0]
theorem trees_no (c : List Nat) (j : Nat) (h : j < c.length) (h0 : ¬ 0 < c[j]) : trees c (j + 1) = trees c j := by
  have : c.getD j 0 = c[j] := by rw [List.getD_eq_getElem?_getD, List.getElem?_eq_getElem h]; rfl
  rw [trees, this, if_neg h0]

set_option maxRecDepth 100000 in
set_option maxHeartbeats 1000000 in
theorem treesOf_any (a : Option Addr) (cap n : Nat) (c : List Nat) (w : World) (h : Ints w w.heap.size a (up c)) (hn : c.length = n) (h257 : n ≤ 257) :
    Calls Try.prog 123 #[.slice a n cap] w fun e w' => ∃ v m, e = .returned v ∧ mt m = trees c n ∧ OwnT w' 109 w.heap.size v m ∧ Syms w' m ∧ Below w.heap.size w w' := by
  obtain ⟨i0, hi, hz0, hz1, hz2⟩ := info_parts Try.infoTree
  have HN := hideH hn
  have HS := hideH h
  clear hn h
  go_enter Try.func123, Try.ntmps123
  go_wp2_with fail
  go_loopw [8, 3, 4, 5] (fun iv tv _ _ wr => ∃ (j : Nat) (m : List MT), iv = .int .i64 j ∧ j ≤ n ∧ mt m = trees c j ∧ OwnT wr 109 w.heap.size tv m ∧ Syms wr m ∧ Below w.heap.size w wr) (fun iv _ _ _ _ => n - (intOf iv).toNat)
  case atStart => exact ⟨0, [], rfl, Nat.zero_le _, rfl, World.ownsRow_nil _ _ _ _, fun x hx => absurd hx (List.not_mem_nil), Below.refl _ _⟩
  case round =>
    obtain ⟨j, m, rfl, hj, hm, ho, hy, hbw⟩ := hrel
    have HM := hideH hm
    have HO := hideH ho
    have HY := hideH hy
    have HBW := hideH hbw
    have hwz := hbw.size
    have hml : m.length ≤ j := by rw [← mt_length, hm]; exact trees_length c j
    clear hm ho hy hbw
    by_cases hlt : j < n
    · have hjc : j < c.length := by rw [HN.out]; exact hlt
      obtain ⟨b, off, rfl, hbz, hcl⟩ := HS.out.some (by rw [up_length]; omega)
      have ci : wr.cell? ⟨b, off + j, none⟩ = some (.int .i64 (c[j] : Nat)) := (HBW.out.cell (p := ⟨b, off + j, none⟩) hbz).trans (up_get hcl j hjc)
      have HT1 := hideH (trees_yes c j hjc)
      have HT0 := hideH (trees_no c j hjc)
      generalize c[j] = cj at ci HT1 HT0
      clear hcl hjc
      by_cases h0 : 0 < cj
      · have h0' : (0 : Int) < (cj : Int) := by omega
        go_wp2_with (at_builtin; refine wpList_append_own _ rfl (.tmp 15) (.tmp 20) 105 rfl w.heap.size 109 i0 _ 2 32 Try.underlying105 hi hz0 hz1 hz2 rfl (by decide) _ _ _ rfl ((HO.out.alloc _).alloc _) ⟨wr.heap.size + 1, 0, none⟩ 1 1 [.int .i64 (cj : Nat), .slice (some ⟨wr.heap.size, 0, none⟩) 1 1] rfl rfl ?c1 (two_one rfl rfl) (by unfold maxLen; omega) (by omega) (by simp; omega) ?_)
        case c1 =>
          have := two_new (wr.alloc (.cells #[.int .i64 (j : Nat)] 3)) (.int .i64 (cj : Nat)) (.slice (some ⟨wr.heap.size, 0, none⟩) 1 1) 109
          simpa using this
        intro v' w2 hown hgrow _
        have HO2 := hideH (OwnT.snoc (x := ((cj, [j]), .slice (some ⟨wr.heap.size, 0, none⟩) 1 1)) hown)
        have HB2 : Hid (Below w.heap.size w w2) := by
          refine ((HBW.out.alloc hwz _).alloc (by simp; omega) _).grown hgrow (by simp; omega) ?_
          intro k hk
          exact (World.ownsRow.lt HO.out k hk).1
        have hk1 : Keeps wr (wr.alloc (.cells #[.int .i64 (j : Nat)] 3)) := Keeps.below ((Below.refl _ _).alloc (Nat.le_refl _) _)
        have hk2 := hk1.trans (Keeps.below ((Below.refl _ (wr.alloc (.cells #[.int .i64 (j : Nat)] 3))).alloc (Nat.le_refl _) (.cells #[.int .i64 (cj : Nat), .slice (some ⟨wr.heap.size, 0, none⟩) 1 1] 109)))
        have hk3 := Keeps.grown hgrow (((HO.out.alloc _).alloc _).rowT (by decide))
        have HY2 : Hid (Syms w2 (m ++ [((cj, [j]), .slice (some ⟨wr.heap.size, 0, none⟩) 1 1)])) := by
          intro x hx
          rcases List.mem_append.1 hx with hx | hx
          · exact (HY.out x hx).keeps (hk2.trans hk3)
          · rw [List.mem_singleton.1 hx]
            exact ((Sym.one wr j).keeps (Keeps.below ((Below.refl _ _).alloc (Nat.le_refl _) _))).keeps hk3
        clear hown hgrow hk1 hk2 hk3
        go_wp2_with fail
        go_roundw
        case rel => exact ⟨j + 1, m ++ [((cj, [j]), .slice (some ⟨wr.heap.size, 0, none⟩) 1 1)], by go_num, by omega, by rw [HT1.out h0, ← HM.out]; unfold mt; rw [List.map_append]; rfl, HO2.out, HY2.out, HB2.out⟩
        case measure => simp [intOf]; omega
      · have h0' : cj = 0 := by omega
        subst h0'
        go_wp2_with fail
        go_roundw
        case rel => exact ⟨j + 1, m, by go_num, by omega, by rw [HT0.out h0]; exact HM.out, HO.out, HY.out, HBW.out⟩
        case measure => simp [intOf]; omega
    · obtain rfl : j = n := by omega
      go_wp2_with fail
      go_ret
      exact ⟨_, m, rfl, HM.out, HO.out, HY.out, HBW.out⟩
end Go.Proofs.Ytmkpakhpjgocjaa.Hf
