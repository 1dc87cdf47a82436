/- Texts put together: HuConcat, HuDeep, HuMid, HuDepths, HuImpl. -/
import Derived.Test.YtjdlgpnhkfdehaaGreatDoorLo24
import Derived.Shelf.Spec.SlicesGrow
/- The walk of slices.Concat of two rows of symbols. -/
namespace Go.Proofs.YtjdlgpnhkfdehaaGreatDoor.Hf
open Go.RowKit Go.Shelf
shelf_lay_g Lays8.n4 Nm8 4 at Tryz 237 as Tryz.growI
theorem Tryz.infoInt : (Tryz.prog.info? 3).map (fun i => (i.zero, i.size, i.bytes)) = some (some (.int .i64 0), 1, 8) := by kernel_rfl
def nums (s : List Nat) : List Value := s.map fun (x : Nat) => Value.int .i64 (x : Int)
def OwnY (W : World) (base : Nat) (v : Value) (s : List Nat) : Prop := W.ownsRow base 3 1 v s.length (nums s)
theorem grow_any (n : Nat) (w : World) (h0 : 0 < n) (hn : n ≤ 1000) :
    Calls Tryz.prog 237 #[.slice none 0 0, .int .i64 n] w fun e w' => ∃ v, e = .returned v ∧ OwnY w' w.heap.size v [] ∧ Below w.heap.size w w' := by
  obtain ⟨i0, hi, hz0, hz1, hz2⟩ := info_parts Tryz.infoInt
  refine (Any8.slices_Grow_grow Tryz.growI i0 (.int .i64 0) hi hz0 (by rw [hz1]; decide) none 0 0 n [] w (Nat.le_refl _) (by omega) (by rw [hz2]; omega) (by omega) (by simp) (fun _ => rfl) (fun a ha => by cases ha)).mono ?_
  rintro e w' ⟨rfl, rfl⟩
  have hge := grownCap_ge w (0 + n) 0 (Tryz.growI_ren.t 25)
  have hle := grownCap_le_maxLen w (0 + n) 0 (Tryz.growI_ren.t 25) (by unfold maxLen; omega)
  refine ⟨_, rfl, ?_, (Below.refl _ _).drew.alloc (Nat.le_refl _) _⟩
  exact World.ownsRow_made w.drew _ _ (Nat.le_refl _) hle (by
    have hc1 : (Value.int IntKind.i64 0).cells.size = 1 := rfl
    rw [Nat.zero_add] at hge
    simp [Builtin.zeroCells, hc1]
    omega)
theorem nums_length (s : List Nat) : (nums s).length = s.length := List.length_map ..
theorem nums_one (s : List Nat) : ∀ u ∈ nums s, u.oneCell' = true := by
  intro u hu
  obtain ⟨x, _, rfl⟩ := List.mem_map.1 hu
  rfl
theorem Sym.news {W : World} {g : Nat} {s : List Nat} (hc : ∀ j (h : j < s.length), W.cell? ⟨g, j, none⟩ = some (.int .i64 (s[j] : Nat))) : ∀ j u, (nums s)[j]? = some u → W.cell? ((⟨g, 0, none⟩ : Addr).add j) = some u := by
  intro j u hu
  have hj : j < s.length := by
    have := (List.getElem?_eq_some_iff.1 hu).1
    rwa [nums_length] at this
  unfold nums at hu
  rw [List.getElem?_map, List.getElem?_eq_getElem hj] at hu
  rw [Addr.add_lit, Nat.zero_add, hc j hj]
  exact hu
theorem OwnY.sym {W : World} {base : Nat} {v : Value} {s : List Nat} (h : OwnY W base v s) (h0 : 0 < s.length) : Sym W v s := by
  obtain ⟨_, h⟩ := h
  rcases h with ⟨_, h⟩ | ⟨g, cap, cur, hv, _, hb, hn, _, hs, ht⟩
  · omega
  · refine ⟨g, cap, cur, hv, hb, hn, fun j hj => ?_⟩
    have : (nums s)[j]? = some (.int .i64 (s[j] : Nat)) := by
      unfold nums
      rw [List.getElem?_map, List.getElem?_eq_getElem hj]
      rfl
    rw [← ht, List.getElem?_take_of_lt (by omega), Array.getElem?_toList] at this
    exact this
theorem OwnY.app {W : World} {base : Nat} {v : Value} {s t : List Nat} (h : W.ownsRow base 3 1 v (s.length + t.length) (nums s ++ nums t)) : OwnY W base v (s ++ t) := by
  unfold OwnY
  rw [List.length_append]
  unfold nums at h ⊢
  rw [List.map_append]
  exact h
def tot (a b : List Nat) (i : Nat) : Nat := if i = 0 then 0 else if i = 1 then a.length else a.length + b.length
def pre (a b : List Nat) (i : Nat) : List Nat := if i = 0 then [] else if i = 1 then a else a ++ b
set_option maxRecDepth 100000 in
set_option maxHeartbeats 1000000 in
theorem concat_any (gb ga ca gc cc : Nat) (a b : List Nat) (t : TypeId) (w : World) (h0 : 0 < a.length) (ha : a.length ≤ 257) (hb : b.length ≤ 257) (hg : w.heap[gb]? = some (.cells #[.slice (some ⟨ga, 0, none⟩) a.length ca, .slice (some ⟨gc, 0, none⟩) b.length cc] t (0, 0)))
    (hga : ga < w.heap.size) (hgc : gc < w.heap.size) (hca : ∀ j (h : j < a.length), w.cell? ⟨ga, j, none⟩ = some (.int .i64 (a[j] : Nat))) (hcc : ∀ j (h : j < b.length), w.cell? ⟨gc, j, none⟩ = some (.int .i64 (b[j] : Nat))) :
    Calls Tryz.prog 204 #[.slice (some ⟨gb, 0, none⟩) 2 2] w fun e w' => ∃ v, e = .returned v ∧ Sym w' v (a ++ b) ∧ Below w.heap.size w w' := by
  obtain ⟨i0, hi, hz0, hz1, hz2⟩ := info_parts Tryz.infoInt
  have hgb := lt_row hg
  have c0 : w.cell? ⟨gb, 0, none⟩ = some (.slice (some ⟨ga, 0, none⟩) a.length ca) := cell_of_row w _ 0 _ _ _ hg
  have c1 : w.cell? ⟨gb, 1, none⟩ = some (.slice (some ⟨gc, 0, none⟩) b.length cc) := cell_of_row w _ 1 _ _ _ hg
  have HC0 := hideH (fun (W : World) (h : Below w.heap.size w W) => (h.cell (p := ⟨gb, 0, none⟩) hgb).trans c0)
  have HC1 := hideH (fun (W : World) (h : Below w.heap.size w W) => (h.cell (p := ⟨gb, 1, none⟩) hgb).trans c1)
  have HNA := hideH (fun (W : World) (h : Below w.heap.size w W) => Sym.news (W := W) (g := ga) (s := a) fun j hj => (h.cell (p := ⟨ga, j, none⟩) hga).trans (hca j hj))
  have HNB := hideH (fun (W : World) (h : Below w.heap.size w W) => Sym.news (W := W) (g := gc) (s := b) fun j hj => (h.cell (p := ⟨gc, j, none⟩) hgc).trans (hcc j hj))
  have HLA := hideH (nums_length a)
  have HLB := hideH (nums_length b)
  have HFIN := hideH (fun (W : World) v (h : OwnY W w.heap.size v (a ++ b)) => h.sym (by rw [List.length_append]; omega))
  have HT1 : Hid (tot a b 1 = a.length) := rfl
  have HT2 : Hid (tot a b 2 = a.length + b.length) := rfl
  clear hg hca hcc
  obtain ⟨na, hna⟩ : ∃ na, na = a.length := ⟨_, rfl⟩
  obtain ⟨nb, hnb⟩ : ∃ nb, nb = b.length := ⟨_, rfl⟩
  have EA := hideH hna
  have EB := hideH hnb
  rw [← hna] at h0 ha c0 HC0 HT1 HT2
  rw [← hnb] at hb c1 HC1 HT2
  clear hna hnb
  go_enter Tryz.func204, Tryz.ntmps204
  go_wp2_with fail
  go_loopw [11, 3, 5] (fun iv sv _ wr => ∃ i : Nat, iv = .int .i64 i ∧ i ≤ 2 ∧ sv = .int .i64 (tot a b i : Nat) ∧ wr = w) (fun iv _ _ _ => 2 - (intOf iv).toNat)
  case atStart => exact ⟨0, rfl, by omega, rfl, rfl⟩
  case round =>
    obtain ⟨i, rfl, hi2, rfl, hw⟩ := hrel
    subst wr
    have h3 : i = 0 ∨ i = 1 ∨ i = 2 := by omega
    rcases h3 with rfl | rfl | rfl
    · have HE : Hid (tot a b 0 = 0) := rfl
      rw [HE.out]
      have hx : decide ((na : Int) < 0) = false := by simp
      go_wp2_with fail
      go_roundw
      case rel => exact ⟨1, rfl, by omega, by rw [HT1.out], by trivial⟩
      case measure => simp [intOf]
    · rw [HT1.out]
      have hx : decide ((na : Int) + nb < 0) = false := by simp; omega
      go_wp2_with fail
      go_roundw
      case rel => exact ⟨2, rfl, by omega, by rw [HT2.out]; first | rfl | simp, by trivial⟩
      case measure => simp [intOf]
    · rw [HT2.out]
      have hsz : ((na + nb : Nat) : Int) = (na : Int) + nb := by omega
      go_wp2_with fail
      refine (grow_any (na + nb) _ (by omega) (by omega)).mono ?_
      rintro e w1 ⟨v1, rfl, ho1, hb1⟩
      have HO1 := hideH ho1
      have HB1 := hideH hb1
      clear ho1 hb1
      go_wp2_with fail
      go_loopw [27, 6, 8] (fun iv tv _ wr => ∃ i : Nat, iv = .int .i64 i ∧ i ≤ 2 ∧ OwnY wr w.heap.size tv (pre a b i) ∧ Below w.heap.size w wr) (fun iv _ _ _ => 2 - (intOf iv).toNat)
      case atStart => exact ⟨0, rfl, by omega, HO1.out, HB1.out⟩
      case round =>
        obtain ⟨i, rfl, hi2, ho, hbw⟩ := hrel
        have HO := hideH ho
        have HBW := hideH hbw
        clear ho hbw
        have h3 : i = 0 ∨ i = 1 ∨ i = 2 := by omega
        rcases h3 with rfl | rfl | rfl
        · skip
          have HE : Hid (OwnY wr w.heap.size u6 []) := HO.out
          have ci := HC0.out wr HBW.out
          have hwz := HBW.out.size
          go_wp2_with (at_builtin; refine wpList_append_own _ rfl (.tmp 31) (.tmp 32) 214 rfl w.heap.size 3 i0 (.int .i64 0) 1 8 Tryz.underlying214 hi hz0 hz1 hz2 rfl (by decide) _ _ _ rfl HE.out ⟨ga, 0, none⟩ na ca (nums a) rfl (by rw [HLA.out, ← EA.out]; omega) (HNA.out wr HBW.out) (nums_one _) (by unfold maxLen; simp only [List.length_nil]; omega) (by simp only [List.length_nil]; omega) hwz ?_)
          intro v' w2 hown hgrow _
          have HO2 : Hid (OwnY w2 w.heap.size v' ([] ++ a)) := by
            rw [EA.out] at hown
            exact OwnY.app (s := []) (by rw [List.length_nil, Nat.zero_add]; exact hown)
          have HB2 : Hid (Below w.heap.size w w2) := by
            refine HBW.out.grown hgrow hwz ?_
            intro k hk
            exact (World.ownsRow.lt HE.out k hk).1
          clear hown hgrow
          go_wp2_with fail
          go_roundw
          case rel => exact ⟨1, rfl, by omega, HO2.out, HB2.out⟩
          case measure => simp [intOf]
        · skip
          have HE : Hid (OwnY wr w.heap.size u6 a) := HO.out
          have ci := HC1.out wr HBW.out
          have hwz := HBW.out.size
          go_wp2_with (at_builtin; refine wpList_append_own _ rfl (.tmp 31) (.tmp 32) 214 rfl w.heap.size 3 i0 (.int .i64 0) 1 8 Tryz.underlying214 hi hz0 hz1 hz2 rfl (by decide) _ _ _ rfl HE.out ⟨gc, 0, none⟩ nb cc (nums b) rfl (by rw [HLB.out, ← EB.out]; omega) (HNB.out wr HBW.out) (nums_one _) (by unfold maxLen; rw [← EA.out]; omega) (by rw [← EA.out]; omega) hwz ?_)
          intro v' w2 hown hgrow _
          have HO2 : Hid (OwnY w2 w.heap.size v' (a ++ b)) := by
            rw [EB.out] at hown
            exact OwnY.app hown
          have HB2 : Hid (Below w.heap.size w w2) := by
            refine HBW.out.grown hgrow hwz ?_
            intro k hk
            exact (World.ownsRow.lt HE.out k hk).1
          clear hown hgrow
          go_wp2_with fail
          go_roundw
          case rel => exact ⟨2, rfl, by omega, HO2.out, HB2.out⟩
          case measure => simp [intOf]
        · have HE : Hid (OwnY wr w.heap.size u6 (a ++ b)) := HO.out
          go_wp2_with fail
          go_ret
          exact ⟨_, rfl, HFIN.out _ _ HE.out, HBW.out⟩
end Go.Proofs.YtjdlgpnhkfdehaaGreatDoor.Hf


/- What the walks of depthsOf and l04Lengths want of the plain mathematics. -/
namespace Go.Proofs.YtjdlgpnhkfdehaaGreatDoor.Hf
open Go.RowKit
open Go.Proofs.YtjdlgpnhkfdehaaGreatDoor.In (IsI irow Ints made_ints)
def ns (l : List Tree) : Nat := (l.map fun t => t.2.length).sum
theorem ns_perm {l l' : List Tree} (p : l.Perm l') : ns l = ns l' := (p.map _).sum_nat
theorem ns_join (l : List Tree) (h : 2 ≤ l.length) : ns (join l) = ns l := by
  rw [ns_perm (two_perm l h), ns_perm (join_perm l)]
  unfold ns both
  simp only [List.map_cons, List.sum_cons, List.length_append]
  omega
theorem ns_trees (c : List Nat) : ∀ i, ns (trees c i) ≤ i
  | 0 => Nat.le_refl _
  | i + 1 => by
    have := ns_trees c i
    rw [trees]
    split
    · unfold ns at this ⊢
      rw [List.map_append, List.sum_append]
      simp
      exact this
    · omega
theorem ns_mem (l : List Tree) (t : Tree) (h : t ∈ l) : t.2.length ≤ ns l := le_sum _ _ (List.mem_map.2 ⟨t, h, rfl⟩)
theorem fib_ge : ∀ k, k + 1 ≤ fib (k + 2)
  | 0 => by decide
  | 1 => by decide
  | k + 2 => by
    have h1 := fib_ge k
    have h2 := fib_ge (k + 1)
    rw [show fib (k + 2 + 2) = fib (k + 2) + fib (k + 1 + 2) from rfl]
    omega
theorem Inv.small {l : List Tree} {d : List Nat} {n : Nat} (h : Inv l d n) (s : Nat) : d.getD s 0 ≤ n := by
  rcases h.bound s with h | h
  · unfold dep at h
    omega
  · have := fib_ge (dep d s)
    unfold dep at h this
    omega
theorem Inv.weights {l : List Tree} {d : List Nat} {n : Nat} (h : Inv l d n) (h2 : 2 ≤ l.length) : (first l).1 + (second l).1 ≤ n := by
  have := (h.perm (two_perm l h2)).sum
  simp only [List.map_cons, List.sum_cons] at this
  omega
theorem taken (m : List MT) (k : Nat) (hn : m.length = k + 1) : ∃ x, m[least (mt m) (k + 1)]? = some x ∧ x ∈ m ∧ x.1 = first (mt m) ∧ mt (m.eraseIdx (least (mt m) (k + 1))) = rest1 (mt m) ∧ (m.eraseIdx (least (mt m) (k + 1))).length = k ∧ ∀ y ∈ m.eraseIdx (least (mt m) (k + 1)), y ∈ m := by
  have hl : least (mt m) m.length < m.length := by
    have := least_lt (mt m) (by rw [mt_length]; omega)
    rw [mt_length] at this
    exact this
  rw [← hn]
  refine ⟨m[least (mt m) m.length], List.getElem?_eq_getElem hl, List.getElem_mem hl, first_mt m hl, rest_mt m, ?_, fun y hy => List.mem_of_mem_eraseIdx hy⟩
  rw [List.length_eraseIdx, if_pos hl]
  omega
theorem Syms.sub {W : World} {m k : List MT} (h : Syms W m) (hs : ∀ y ∈ k, y ∈ m) : Syms W k := fun x hx => h x (hs x hx)
theorem Keeps.wr {g gl : Nat} {w w' : World} (h : Wr g gl w w') {cs cl : Array Value} {t u : TypeId} (hg : w.heap[g]? = some (.cells cs t (0, 0))) (ht : t ≠ 3) (hl : w.heap[gl]? = some (.cells cl u (0, 0))) (hu : u ≠ 3) : Keeps w w' := fun k cur e => by
  rw [h.block k (lt_row e) (by
    rintro rfl
    rw [hg] at e
    simp at e
    exact ht e.2) (by
    rintro rfl
    rw [hl] at e
    simp at e
    exact hu e.2)]
  exact e
theorem OwnT.of {W : World} {e : TypeId} {base g cap n : Nat} {m : List MT} {cur : Array Value} (hn : m.length = n) (hg : base ≤ g) (hb : W.heap[g]? = some (.cells cur e (0, 0))) (hc : n ≤ cap) (hm : cap ≤ maxLen) (hs : cur.size = cap * 2) (ht : cur.toList.take (n * 2) = cells m) : OwnT W e base (.slice (some ⟨g, 0, none⟩) n cap) m := by
  subst hn
  exact ⟨cells_length m, .inr ⟨g, cap, cur, rfl, hg, hb, hc, hm, hs, ht⟩⟩
theorem OwnT.parts {W : World} {e : TypeId} {base : Nat} {v : Value} {m : List MT} (h : OwnT W e base v m) (h0 : 0 < m.length) : ∃ g cap cur, v = .slice (some ⟨g, 0, none⟩) m.length cap ∧ base ≤ g ∧ m.length ≤ cap ∧ cap ≤ maxLen ∧ W.heap[g]? = some (.cells cur e (0, 0)) ∧ cur.size = cap * 2 ∧ cur.toList.take (m.length * 2) = cells m := by
  obtain ⟨_, h⟩ := h
  rcases h with ⟨_, h⟩ | ⟨g, cap, cur, hv, hg, hb, hn, hm, hs, ht⟩
  · omega
  · exact ⟨g, cap, cur, hv, hg, hn, hm, hb, hs, ht⟩
theorem sum_all (c : List Nat) (hl : c.length ≤ 257) (hm : ∀ x ∈ c, x ≤ 10000) : c.sum ≤ 2570000 := by
  have := sum_le c 10000 hm
  omega
end Go.Proofs.YtjdlgpnhkfdehaaGreatDoor.Hf


/- Between the two takes of depthsOf. -/
namespace Go.Proofs.YtjdlgpnhkfdehaaGreatDoor.Hf
open Go.RowKit
open Go.Proofs.YtjdlgpnhkfdehaaGreatDoor.In (IsI irow Ints made_ints)
structure Mid (wr W : World) (g gl cap k : Nat) (m : List MT) (d : List Nat) (a5 b5 a6 b6 : Value) : Prop where
  row : ∃ cur : Array Value, W.heap[g]? = some (.cells cur 216 (0, 0)) ∧ cur.size = cap * 2 ∧ cur.toList.take (k * 2) = cells m
  len : IsI W gl 2 (up d)
  wrt : Wr g gl wr W
  kp : Keeps wr W
  p5 : W.heap[wr.heap.size]? = some (.cells #[a5, b5] 216 (0, 0))
  p6 : W.heap[wr.heap.size + 1]? = some (.cells #[a6, b6] 216 (0, 0))
  hg : g < wr.heap.size
  hl : gl < wr.heap.size
theorem Mid.start {wr : World} {g gl cap k : Nat} {m : List MT} {d : List Nat} {cur : Array Value} (hb : wr.heap[g]? = some (.cells cur 216 (0, 0))) (hs : cur.size = cap * 2) (ht : cur.toList.take (k * 2) = cells m) (hd : IsI wr gl 2 (up d)) :
    Mid wr ((wr.alloc (.cells #[.int .i64 0, .slice none 0 0] 216)).alloc (.cells #[.int .i64 0, .slice none 0 0] 216)) g gl cap k m d (.int .i64 0) (.slice none 0 0) (.int .i64 0) (.slice none 0 0) := by
  have hB : Below wr.heap.size wr ((wr.alloc (.cells #[.int .i64 0, .slice none 0 0] 216)).alloc (.cells #[.int .i64 0, .slice none 0 0] 216)) := ((Below.refl _ _).alloc (Nat.le_refl _) _).alloc (by simp) _
  refine ⟨⟨cur, (hB.block g (lt_row hb)).trans hb, hs, ht⟩, hd.below hB hd.lt, Wr.of hB, Keeps.below hB, (Below.heap_alloc _ _ _ (by simp)).trans (heap_alloc_new wr _), ?_, lt_row hb, hd.lt⟩
  have := heap_alloc_new (wr.alloc (.cells #[.int .i64 0, .slice none 0 0] 216)) (.cells #[.int .i64 0, .slice none 0 0] 216)
  rw [show (wr.alloc (.cells #[.int .i64 0, .slice none 0 0] 216)).heap.size = wr.heap.size + 1 by simp] at this
  exact this
theorem Mid.take {wr W W' : World} {g gl cap k k' : Nat} {m m' : List MT} {d d' : List Nat} {a5 b5 a6 b6 : Value} (h : Mid wr W g gl cap k m d a5 b5 a6 b6) (hr : ∃ cur : Array Value, W'.heap[g]? = some (.cells cur 216 (0, 0)) ∧ cur.size = cap * 2 ∧ cur.toList.take (k' * 2) = cells m') (hd : IsI W' gl 2 (up d')) (hw : Wr g gl W W') : Mid wr W' g gl cap k' m' d' a5 b5 a6 b6 := by
  obtain ⟨cur, hb, _⟩ := h.row
  have h1 := h.hg
  have h2 := h.hl
  exact ⟨hr, hd, h.wrt.trans hw, h.kp.trans (Keeps.wr hw hb (by decide) h.len (by decide)), (hw.block _ (lt_row h.p5) (by omega) (by omega)).trans h.p5, (hw.block _ (lt_row h.p6) (by omega) (by omega)).trans h.p6, h1, h2⟩
theorem Mid.set5 {wr W : World} {g gl cap k : Nat} {m : List MT} {d : List Nat} {a5 b5 a6 b6 : Value} (h : Mid wr W g gl cap k m d a5 b5 a6 b6) (x y : Value) : Mid wr ((W.setCell ⟨wr.heap.size, 0, none⟩ x).setCell ⟨wr.heap.size, 1, none⟩ y) g gl cap k m d x y a6 b6 := by
  obtain ⟨cur, hb, hs, ht⟩ := h.row
  have h1 := h.hg
  have h2 := h.hl
  have e1 := heap_setCell_same W wr.heap.size 0 _ _ x h.p5
  have e2 := heap_setCell_same _ wr.heap.size 1 _ _ y e1
  refine ⟨⟨cur, ?_, hs, ht⟩, (h.len.set_other _ _ (by show gl ≠ wr.heap.size; omega)).set_other _ _ (by show gl ≠ wr.heap.size; omega), (h.wrt.new (Nat.le_refl _) _ _).new (Nat.le_refl _) _ _, (h.kp.trans (Keeps.set h.p5 (by decide) _ _)).trans (Keeps.set e1 (by decide) _ _), e2, ?_, h1, h2⟩
  · rw [heap_setCell_other _ _ _ _ (by show g ≠ wr.heap.size; omega), heap_setCell_other _ _ _ _ (by show g ≠ wr.heap.size; omega)]
    exact hb
  · rw [heap_setCell_other _ _ _ _ (by show wr.heap.size + 1 ≠ wr.heap.size; omega), heap_setCell_other _ _ _ _ (by show wr.heap.size + 1 ≠ wr.heap.size; omega)]
    exact h.p6
theorem Mid.set6 {wr W : World} {g gl cap k : Nat} {m : List MT} {d : List Nat} {a5 b5 a6 b6 : Value} (h : Mid wr W g gl cap k m d a5 b5 a6 b6) (x y : Value) : Mid wr ((W.setCell ⟨wr.heap.size + 1, 0, none⟩ x).setCell ⟨wr.heap.size + 1, 1, none⟩ y) g gl cap k m d a5 b5 x y := by
  obtain ⟨cur, hb, hs, ht⟩ := h.row
  have h1 := h.hg
  have h2 := h.hl
  have e1 := heap_setCell_same W (wr.heap.size + 1) 0 _ _ x h.p6
  have e2 := heap_setCell_same _ (wr.heap.size + 1) 1 _ _ y e1
  refine ⟨⟨cur, ?_, hs, ht⟩, (h.len.set_other _ _ (by show gl ≠ wr.heap.size + 1; omega)).set_other _ _ (by show gl ≠ wr.heap.size + 1; omega), (h.wrt.new (by omega) _ _).new (by omega) _ _, (h.kp.trans (Keeps.set h.p6 (by decide) _ _)).trans (Keeps.set e1 (by decide) _ _), ?_, e2, h1, h2⟩
  · rw [heap_setCell_other _ _ _ _ (by show g ≠ wr.heap.size + 1; omega), heap_setCell_other _ _ _ _ (by show g ≠ wr.heap.size + 1; omega)]
    exact hb
  · rw [heap_setCell_other _ _ _ _ (by show wr.heap.size ≠ wr.heap.size + 1; omega), heap_setCell_other _ _ _ _ (by show wr.heap.size ≠ wr.heap.size + 1; omega)]
    exact h.p5
theorem Mid.below {wr W W' : World} {g gl cap k : Nat} {m : List MT} {d : List Nat} {a5 b5 a6 b6 : Value} (h : Mid wr W g gl cap k m d a5 b5 a6 b6) (hb : Below W.heap.size W W') : Mid wr W' g gl cap k m d a5 b5 a6 b6 := by
  obtain ⟨cur, hc, hs, ht⟩ := h.row
  exact ⟨⟨cur, (hb.block g (lt_row hc)).trans hc, hs, ht⟩, h.len.below hb h.len.lt, h.wrt.more hb, h.kp.trans (Keeps.below hb), (hb.block _ (lt_row h.p5)).trans h.p5, (hb.block _ (lt_row h.p6)).trans h.p6, h.hg, h.hl⟩
theorem Mid.cells5 {wr W : World} {g gl cap k : Nat} {m : List MT} {d : List Nat} {a5 b5 a6 b6 : Value} (h : Mid wr W g gl cap k m d a5 b5 a6 b6) : W.cell? ⟨wr.heap.size, 0, none⟩ = some a5 ∧ W.cell? ⟨wr.heap.size, 1, none⟩ = some b5 ∧ W.frozen? ⟨wr.heap.size, 0, none⟩ = false ∧ W.frozen? ⟨wr.heap.size, 1, none⟩ = false :=
  ⟨cell_of_row W _ 0 _ _ _ h.p5, cell_of_row W _ 1 _ _ _ h.p5, frozen_of_row W _ 0 _ _ h.p5, frozen_of_row W _ 1 _ _ h.p5⟩
theorem Mid.cells6 {wr W : World} {g gl cap k : Nat} {m : List MT} {d : List Nat} {a5 b5 a6 b6 : Value} (h : Mid wr W g gl cap k m d a5 b5 a6 b6) : W.cell? ⟨wr.heap.size + 1, 0, none⟩ = some a6 ∧ W.cell? ⟨wr.heap.size + 1, 1, none⟩ = some b6 ∧ W.frozen? ⟨wr.heap.size + 1, 0, none⟩ = false ∧ W.frozen? ⟨wr.heap.size + 1, 1, none⟩ = false :=
  ⟨cell_of_row W _ 0 _ _ _ h.p6, cell_of_row W _ 1 _ _ _ h.p6, frozen_of_row W _ 0 _ _ h.p6, frozen_of_row W _ 1 _ _ h.p6⟩
end Go.Proofs.YtjdlgpnhkfdehaaGreatDoor.Hf


/- The walk of depthsOf. -/
namespace Go.Proofs.YtjdlgpnhkfdehaaGreatDoor.Hf
open Go.RowKit
open Go.Proofs.YtjdlgpnhkfdehaaGreatDoor.In (IsI irow Ints made_ints)
structure Lp (base gl n S : Nat) (w : World) (wr : World) (v : Value) (m : List MT) (d : List Nat) : Prop where
  own : OwnT wr 216 base v m
  sym : Syms wr m
  len : IsI wr gl 2 (up d)
  inv : Inv (mt m) d S
  few : ns (mt m) ≤ n
  dn : d.length = n
  ne : ∀ z ∈ m, 0 < z.1.2.length
  low : Below w.heap.size w wr
  lo : w.heap.size ≤ gl
  hi : gl < base
set_option maxRecDepth 100000 in
set_option maxHeartbeats 400000 in
theorem depths_any (a : Option Addr) (cap n : Nat) (c : List Nat) (w : World) (h : Ints w w.heap.size a (up c)) (hn : c.length = n) (h257 : n ≤ 257) (hm : ∀ x ∈ c, x ≤ 10000) :
    Calls Tryz.prog 160 #[.slice a n cap] w fun e w' => e = .returned (.slice (some ⟨w.heap.size, 0, none⟩) n n) ∧ IsI w' w.heap.size 2 (up (depths c)) ∧ Below w.heap.size w w' := by
  obtain ⟨i0, hi, hz0, hz1, hz2⟩ := info_parts In.Tryz.infoI2
  obtain ⟨j0, hji, hj0, hj1, hj2⟩ := info_parts Tryz.infoTree
  have HN := hideH hn
  have HS := hideH h
  have HSUM := hideH (sum_all c (by omega) hm)
  have HINV := hideH (trees_inv c n (by omega))
  have HNS := hideH (ns_trees c n)
  have HDE : Hid (depths c = if (trees c n).length = 1 then (zeros n).set ((at0 (trees c n) 0).2.getD 0 0) 1 else run (trees c n).length (trees c n) (zeros n)) := by
    unfold Hid
    rw [← hn]
    rfl
  have HTK : Hid ((c.take n).sum = c.sum) := by
    unfold Hid
    rw [← hn, List.take_length]
  clear hn h hm
  go_enter Tryz.func160, Tryz.ntmps160
  go_wp2_with (at_make; refine wpList_make_full _ rfl (.tmp 9) (.tmp 9) 97 rfl w.heap.size 2 i0 (.int .i64 0) 1 Tryz.underlying97 hi hz0 hz1 .i64 .i64 _ _ n rfl rfl (by omega) (by omega) (by rw [hz2]; omega) (by unfold maxLen; omega) (Nat.le_refl _) ?_; intro w1 hown hgrow; have HI1 := hideH (made_ints hown); have HB1 := hideH ((Below.refl w.heap.size w).grown hgrow (Nat.le_refl _) (by simp)); have hz1w := (made_ints hown).lt; clear hown hgrow)
  have HS1 := hideH (((HS.out.below HB1.out).mono HB1.out.size))
  refine (treesOf_any a cap n c w1 HS1.out HN.out h257).mono ?_
  rintro e w2 ⟨v2, m, rfl, hmt, ho2, hy2, hb2⟩
  have HMT := hideH hmt
  have hml : m.length ≤ n := by rw [← mt_length, hmt]; exact trees_length c n
  have HLP : Hid (Lp w1.heap.size w.heap.size n c.sum w w2 v2 m (zeros n)) := ⟨ho2, hy2, by
    have : up (zeros n) = List.replicate n 0 := by unfold up zeros; rw [List.map_replicate]; rfl
    rw [this]
    exact HI1.out.below hb2 hz1w, by
    have := HINV.out
    rw [HN.out, HTK.out] at this
    rw [hmt]
    exact this, by rw [hmt]; exact HNS.out, List.length_replicate .., fun z hz => by
    obtain ⟨j, _, _, e⟩ := trees_mem c n z.1 (by rw [← hmt]; exact List.mem_map.2 ⟨z, hz, rfl⟩)
    rw [e]
    exact Nat.zero_lt_one, HB1.out.trans (hb2.mono HB1.out.size), Nat.le_refl _, hz1w⟩
  clear hmt ho2 hy2 hb2
  have hsl : ∃ x q, v2 = .slice x m.length q := by
    obtain ⟨_, h⟩ := HLP.out.own
    rcases h with ⟨h, h0⟩ | ⟨g, q, _, hv, _⟩
    · exact ⟨none, 0, by rw [h, h0]⟩
    · exact ⟨_, q, hv⟩
  obtain ⟨x2, q2, rfl⟩ := hsl
  obtain ⟨k, hk⟩ : ∃ k, k = m.length := ⟨_, rfl⟩
  have HK := hideH hk
  rw [← hk] at hml HLP ⊢
  clear hk
  by_cases h1 : k = 1
  · subst h1
    obtain ⟨y, hy⟩ := List.length_eq_one_iff.1 HK.out.symm
    subst hy
    obtain ⟨g, q', cur, hv, hgb, hmc, hmx, hbk, hcs, hct⟩ := HLP.out.own.parts Nat.zero_lt_one
    obtain ⟨rfl, rfl⟩ : x2 = some ⟨g, 0, none⟩ ∧ q2 = q' := by simp at hv; exact hv
    have hr := row_at (m := [y]) hbk hct 0 Nat.zero_lt_one
    obtain ⟨j, hjn, _, hye⟩ := trees_mem c n y.1 (by rw [← HMT.out]; exact List.mem_map.2 ⟨y, List.mem_singleton.2 rfl, rfl⟩)
    have hsy := HLP.out.sym y (List.mem_singleton.2 rfl)
    have HTE : Hid (trees c n = [y.1]) := HMT.out.symm
    obtain ⟨⟨yw, ys⟩, yv⟩ := y
    simp only at hr hye hsy HTE
    obtain ⟨rfl, rfl⟩ := Prod.mk.inj hye
    obtain ⟨gs, cs, cu, rfl, hgs, hsc, hsv⟩ := hsy
    have hs0 : w2.cell? ⟨gs, 0, none⟩ = some (.int .i64 (j : Nat)) := (cell_of_row w2 gs 0 _ _ _ hgs).trans (hsv 0 Nat.zero_lt_one)
    have hlz : j < (zeros n).length := by rw [HLP.out.dn]; exact hjn
    have cl0 : w2.cell? ⟨w.heap.size, j, none⟩ = some (.int .i64 (((zeros n).getD j 0 : Nat) : Int)) := by
      rw [HLP.out.len.cell (j := j) (by rw [up_length]; exact hlz), up_at _ _ hlz]
    have zl0 := HLP.out.len.frozen j
    generalize (zeros n).getD j 0 = old at cl0
    have HD1 : Hid (depths c = (zeros n).set j 1) := by
      have := HDE.out
      rw [HTE.out] at this
      exact this
    have HIS : Hid (IsI (w2.setCell ⟨w.heap.size, j, none⟩ (.int .i64 1)) w.heap.size 2 (up (depths c))) := by
      have := HLP.out.len.set j 1
      unfold Hid
      rw [HD1.out]
      rw [show ((1 : Int)) = ((1 : Nat) : Int) from rfl, up_set] at this
      exact this
    have HBE : Hid (Below w.heap.size w (w2.setCell ⟨w.heap.size, j, none⟩ (.int .i64 1))) := HLP.out.low.setCell (by simp) _
    obtain ⟨r0, r1⟩ := hr
    rw [Nat.zero_mul] at r0
    rw [show 0 * 2 + 1 = 1 from rfl] at r1
    have hjn' : (j : Int) < n := by omega
    clear hbk hcs hct hgs hsv hlz hmx
    go_wp2_with fail
    go_loopw [4, 5, 6, 7] (fun tv _ _ _ wr => tv = .slice (some ⟨g, 0, none⟩) 1 q2 ∧ wr = w2.setCell ⟨w.heap.size, j, none⟩ (.int .i64 1)) (fun _ _ _ _ _ => 0)
    case atStart => exact ⟨rfl, rfl⟩
    case round =>
      obtain ⟨rfl, hw⟩ := hrel
      subst wr
      go_wp2_with fail
      go_ret
      exact ⟨rfl, HIS.out, HBE.out⟩
  · have h1' : ((k : Int) == 1) = false := by simp; omega
    have HRUN : Hid (depths c = run m.length (mt m) (zeros n)) := by
      have := HDE.out
      rw [← HMT.out, mt_length, ← HK.out, if_neg h1] at this
      rw [← HK.out]
      exact this
    go_wp2_with fail
    go_loopw [4, 5, 6, 7] (fun tv _ _ _ wr => ∃ (m : List MT) (d : List Nat) (x : Option Addr) (k q : Nat), tv = .slice x k q ∧ k = m.length ∧ k ≤ n ∧ depths c = run m.length (mt m) d ∧ Lp w1.heap.size w.heap.size n c.sum w wr (.slice x k q) m d) (fun tv _ _ _ _ => match tv with | .slice _ k _ => k | _ => 0)
    case atStart => exact ⟨m, zeros n, x2, k, q2, rfl, HK.out, hml, HRUN.out, HLP.out⟩
    case round =>
      obtain ⟨m, d, x, k, q, rfl, hk, hkn, hrun, hlp⟩ := hrel
      have HRU := hideH hrun
      have HL := hideH hlp
      have HKM := hideH hk
      clear hrun hlp hk HMT HLP HRUN HK
      by_cases h2 : 1 < k
      · obtain ⟨k1, rfl⟩ : ∃ k1, k = k1 + 1 := ⟨k - 1, by omega⟩
        obtain ⟨k2, hk2⟩ : ∃ k2, k1 = k2 + 1 := ⟨k1 - 1, by omega⟩
        have HK2 := hideH hk2
        have hk2n : k2 ≤ 255 := by omega
        have hm1 : m.length = k1 + 1 := HKM.out.symm
        obtain ⟨g, q', cur, hv, hgb, hmc, hmx, hbk, hcs, hct⟩ := HL.out.own.parts (by omega)
        rw [hm1] at hv hmc hct
        obtain ⟨rfl, rfl⟩ : x = some ⟨g, 0, none⟩ ∧ q = q' := by simp at hv; exact hv
        obtain ⟨y1, hy1, hym1, hyf1, hmt1, hel1, hsub1⟩ := taken m k1 hm1
        obtain ⟨y2, hy2, hym2, hyf2, hmt2, hel2, hsub2⟩ := taken (m.eraseIdx (least (mt m) (k1 + 1))) k2 (by rw [hel1]; exact hk2)
        have hinv := HL.out.inv
        have h2l : 2 ≤ (mt m).length := by rw [mt_length]; omega
        have hs2 : y2.1 = second (mt m) := by rw [hyf2, hmt1]; rfl
        have hr2 : mt ((m.eraseIdx (least (mt m) (k1 + 1))).eraseIdx (least (mt (m.eraseIdx (least (mt m) (k1 + 1)))) (k2 + 1))) = rest2 (mt m) := by rw [hmt2, hmt1]; rfl
        have hsum := HSUM.out
        have hjw := hinv.weights h2l
        have hjinv := hinv.join h2l
        have hjns := ns_join (mt m) h2l
        have hrm := run_more (mt m) d (by omega)
        have hbd : ∀ z ∈ m, z.1.2.length ≤ 257 := fun z hz => by
          have h3 := ns_mem (mt m) z.1 (List.mem_map.2 ⟨z, hz, rfl⟩)
          have h4 := HL.out.few
          omega
        have hlt : ∀ z ∈ m, ∀ s ∈ z.1.2, s < d.length := fun z hz => hinv.lt z.1 (List.mem_map.2 ⟨z, hz, rfl⟩)
        have hsm : ∀ j, d.getD j 0 ≤ 2570000 := fun j => by
          have := hinv.small j
          omega
        have M0 := hideH (Mid.start hbk hcs hct HL.out.len)
        have HT1 : Hid (∀ (W : World) (a5 b5 a6 b6 : Value), Mid wr W g w.heap.size q (k1 + 1) m d a5 b5 a6 b6 → Calls Tryz.prog 203 #[.slice (some ⟨g, 0, none⟩) (k1 + 1) q, .slice (some ⟨w.heap.size, 0, none⟩) n n] W fun e w' => e = .returned (.tuple #[.agg #[.int .i64 (y1.1.1 : Nat), y1.2], .slice (some ⟨g, 0, none⟩) k1 q]) ∧ Hid (Mid wr w' g w.heap.size q k1 (m.eraseIdx (least (mt m) (k1 + 1))) (incs d y1.1.2) a5 b5 a6 b6)) := fun W a5 b5 a6 b6 hM => by
          obtain ⟨cu, e1, e2, e3⟩ := hM.row
          refine (take_any g w.heap.size k1 q n n m d cu W hm1 hmc (by omega) e1 e2 e3 (HL.out.sym.keeps hM.kp) hbd hlt hM.len HL.out.dn (fun j => by have := hsm j; omega) y1 hy1).mono ?_
          rintro e w' ⟨rfl, hr, hd, hw⟩
          exact ⟨rfl, hM.take hr hd hw⟩
        have HT2 : Hid (∀ (W : World) (a5 b5 a6 b6 : Value), Mid wr W g w.heap.size q k1 (m.eraseIdx (least (mt m) (k1 + 1))) (incs d y1.1.2) a5 b5 a6 b6 → Calls Tryz.prog 203 #[.slice (some ⟨g, 0, none⟩) k1 q, .slice (some ⟨w.heap.size, 0, none⟩) n n] W fun e w' => e = .returned (.tuple #[.agg #[.int .i64 (y2.1.1 : Nat), y2.2], .slice (some ⟨g, 0, none⟩) k2 q]) ∧ Hid (Mid wr w' g w.heap.size q k2 ((m.eraseIdx (least (mt m) (k1 + 1))).eraseIdx (least (mt (m.eraseIdx (least (mt m) (k1 + 1)))) (k2 + 1))) (incs (incs d y1.1.2) y2.1.2) a5 b5 a6 b6)) := fun W a5 b5 a6 b6 hM => by
          obtain ⟨cu, e1, e2, e3⟩ := hM.row
          have hdl : (incs d y1.1.2).length = d.length := incs_length _ _
          have := take_any g w.heap.size k2 q n n (m.eraseIdx (least (mt m) (k1 + 1))) (incs d y1.1.2) cu W (by rw [hel1]; exact hk2) (by omega) (by omega) e1 e2 (by rw [← hk2]; exact e3) ((HL.out.sym.sub hsub1).keeps hM.kp) (fun z hz => hbd z (hsub1 z hz)) (fun z hz s hs => by rw [hdl]; exact hlt z (hsub1 z hz) s hs) hM.len (hdl.trans HL.out.dn) (fun j => by
            have h3 := incs_le y1.1.2 d j (hlt y1 hym1)
            have h4 := hsm j
            have h5 := hbd y1 hym1
            omega) y2 hy2
          rw [← hk2] at this
          refine this.mono ?_
          rintro e w' ⟨rfl, hr, hd, hw⟩
          rw [hk2] at hr hM
          exact ⟨rfl, by rw [hk2]; exact hM.take hr hd hw⟩
        have HSY1 := HL.out.sym y1 hym1
        have HSY2 := HL.out.sym y2 (hsub1 y2 hym2)
        have hb1 := hbd y1 hym1
        have hb2 := hbd y2 (hsub1 y2 hym2)
        have hne1 := HL.out.ne y1 hym1
        have hyf1' := hyf1
        have hjeq : mt ((m.eraseIdx (least (mt m) (k1 + 1))).eraseIdx (least (mt (m.eraseIdx (least (mt m) (k1 + 1)))) (k2 + 1))) ++ [(y1.1.1 + y2.1.1, y1.1.2 ++ y2.1.2)] = join (mt m) := by
          rw [hr2, hyf1, hs2]
          rfl
        have hdeq : incs (incs d y1.1.2) y2.1.2 = incs (incs d (first (mt m)).2) (second (mt m)).2 := by rw [hyf1, hs2]
        have hwl : y1.1.1 + y2.1.1 ≤ 2570000 := by rw [hyf1, hs2]; omega
        have hsub3 : ∀ z ∈ (m.eraseIdx (least (mt m) (k1 + 1))).eraseIdx (least (mt (m.eraseIdx (least (mt m) (k1 + 1)))) (k2 + 1)), z ∈ m := fun z hz => hsub1 z (hsub2 z hz)
        have hlen3 : ((m.eraseIdx (least (mt m) (k1 + 1))).eraseIdx (least (mt (m.eraseIdx (least (mt m) (k1 + 1)))) (k2 + 1))).length = k2 := hel2
        generalize (m.eraseIdx (least (mt m) (k1 + 1))).eraseIdx (least (mt (m.eraseIdx (least (mt m) (k1 + 1)))) (k2 + 1)) = m3 at HT2 hjeq hsub3 hlen3
        generalize m.eraseIdx (least (mt m) (k1 + 1)) = m2 at HT1 HT2
        have HJE := hideH hjeq
        have HDQ := hideH hdeq
        have HSB := hideH hsub3
        have HL3 := hideH hlen3
        have HJI := hideH hjinv
        have HJN := hideH hjns
        have HRM := hideH hrm
        obtain ⟨⟨w1', s1⟩, v1⟩ := y1
        obtain ⟨⟨w2', s2⟩, v2⟩ := y2
        simp only at HT1 HT2 HJE HDQ HSY1 HSY2 hb1 hb2 hne1 hwl
        obtain ⟨g1, c1, cu1, rfl, hh1, hq1, hc1⟩ := HSY1
        obtain ⟨g2, c2, cu2, rfl, hh2, hq2, hc2⟩ := HSY2
        have HCC : Hid (∀ (W : World) (gb : Nat), W.heap[gb]? = some (.cells #[.slice (some ⟨g1, 0, none⟩) s1.length c1, .slice (some ⟨g2, 0, none⟩) s2.length c2] 214 (0, 0)) → Keeps wr W → Calls Tryz.prog 204 #[.slice (some ⟨gb, 0, none⟩) 2 2] W fun e w' => ∃ v, e = .returned v ∧ Sym w' v (s1 ++ s2) ∧ Below W.heap.size W w') := fun W gb hg hk =>
          concat_any gb g1 c1 g2 c2 s1 s2 _ W hne1 hb1 hb2 hg (lt_row (hk g1 _ hh1)) (lt_row (hk g2 _ hh2)) (fun j hj => (cell_of_row W g1 j _ _ _ (hk g1 _ hh1)).trans (hc1 j hj)) (fun j hj => (cell_of_row W g2 j _ _ _ (hk g2 _ hh2)).trans (hc2 j hj))
        clear hjeq hdeq hsub3 hlen3 hjinv hjns hrm hym1 hym2 hyf1 hyf2 hyf1' hmt1 hmt2 hel1 hel2 hsub1 hsub2 hy1 hy2 hs2 hr2 hinv hbd hlt hsm hh1 hq1 hc1 hh2 hq2 hc2 hv hbk hcs hct h2l hjw hk2 hm1
        have HMX := hideH hmx
        clear hmx
        have HNE : Hid (0 < (s1 ++ s2).length) := by
          unfold Hid
          rw [List.length_append]
          omega
        generalize s1.length = n1 at HT1 HCC hb1 hne1
        generalize s2.length = n2 at HT2 HCC hb2
        go_wp2_with fail
        refine (HT1.out _ _ _ _ _ M0.out).mono ?_
        rintro e w3 ⟨rfl, M3⟩
        obtain ⟨c50, c51, z50, z51⟩ := M3.out.cells5
        go_wp2_with fail
        have M4 := hideH (M3.out.set5 (.int .i64 (w1' : Nat)) (.slice (some ⟨g1, 0, none⟩) n1 c1))
        refine (HT2.out _ _ _ _ _ M4.out).mono ?_
        rintro e w5 ⟨rfl, M5⟩
        clear c50 c51 z50 z51
        obtain ⟨c50, c51, z50, z51⟩ := M5.out.cells5
        obtain ⟨c60, c61, z60, z61⟩ := M5.out.cells6
        go_wp2_with fail
        have M6 := hideH (M5.out.set6 (.int .i64 (w2' : Nat)) (.slice (some ⟨g2, 0, none⟩) n2 c2))
        have hz6 : ((w5.setCell ⟨wr.heap.size + 1, 0, none⟩ (.int .i64 (w2' : Nat))).setCell ⟨wr.heap.size + 1, 1, none⟩ (.slice (some ⟨g2, 0, none⟩) n2 c2)).heap.size = w5.heap.size := by simp [World.setCell]
        generalize (w5.setCell ⟨wr.heap.size + 1, 0, none⟩ (.int .i64 (w2' : Nat))).setCell ⟨wr.heap.size + 1, 1, none⟩ (.slice (some ⟨g2, 0, none⟩) n2 c2) = w6 at M6 hz6 ⊢
        have HG6 : Hid ((w6.alloc (.cells #[.slice (some ⟨g1, 0, none⟩) n1 c1, .slice (some ⟨g2, 0, none⟩) n2 c2] 214)).heap[w5.heap.size]? = some (.cells #[.slice (some ⟨g1, 0, none⟩) n1 c1, .slice (some ⟨g2, 0, none⟩) n2 c2] 214 (0, 0))) := by
          unfold Hid
          rw [← hz6]
          exact heap_alloc_new w6 _
        have M6a := hideH (M6.out.below (W' := w6.alloc (.cells #[.slice (some ⟨g1, 0, none⟩) n1 c1, .slice (some ⟨g2, 0, none⟩) n2 c2] 214)) ((Below.refl _ _).alloc (Nat.le_refl _) _))
        clear c50 c51 z50 z51 c60 c61 z60 z61 hz6
        refine (HCC.out _ w5.heap.size HG6.out M6a.out.kp).mono ?_
        rintro e w7 ⟨v7, rfl, hs7, hb7⟩
        have M7 := hideH (M6a.out.below hb7)
        have S7 := hideH hs7
        obtain ⟨g7, c7, cu7, rfl, _, _, _⟩ := hs7
        clear hb7 M3 M4 M5 M6 M6a HG6
        obtain ⟨n7, hn7⟩ : ∃ n7, n7 = (s1 ++ s2).length := ⟨_, rfl⟩
        have HN7 := hideH hn7
        rw [← hn7] at S7 ⊢
        clear hn7
        obtain ⟨c50, c51, z50, z51⟩ := M7.out.cells5
        obtain ⟨c60, c61, z60, z61⟩ := M7.out.cells6
        have HOT : Hid (OwnT w7 216 w1.heap.size (.slice (some ⟨g, 0, none⟩) k2 q) m3) := by
          obtain ⟨cu, e1, e2, e3⟩ := M7.out.row
          exact OwnT.of HL3.out hgb e1 (by have := HK2.out; omega) HMX.out e2 e3
        have HOW : Hid (w7.ownsRow w1.heap.size 216 2 (.slice (some ⟨g, 0, none⟩) k2 q) k2 (cells m3)) := by
          have := HOT.out
          unfold OwnT at this
          rw [HL3.out] at this
          exact this
        have hz7 := M7.out.wrt.size
        have hzr := HL.out.low.size
        have hbase : w1.heap.size ≤ w7.heap.size := by have := M7.out.hg; omega
        go_wp2_with (at_builtin; refine wpList_append_own _ rfl (.tmp 45) (.tmp 53) 212 rfl w1.heap.size 216 j0 _ 2 32 Tryz.underlying212 hji hj0 hj1 hj2 rfl (by decide) _ _ _ rfl (HOW.out.alloc _) ⟨w7.heap.size, 0, none⟩ 1 1 [.int .i64 ((w1' : Int) + w2'), .slice (some ⟨g7, 0, none⟩) n7 c7] rfl rfl (two_new _ _ _ _) (two_one rfl rfl) (by unfold maxLen; omega) (by omega) (by simp; omega) ?_)
        intro v9 w9 hown hgrow _
        have HO9 := hideH (OwnT.snoc (x := ((w1' + w2', s1 ++ s2), .slice (some ⟨g7, 0, none⟩) n7 c7)) (m := m3) (by rw [HL3.out]; exact hown))
        have hgg : w.heap.size < g := by have := HL.out.hi; omega
        have hgr := M7.out.hg
        have hlow7 : Below w.heap.size w w7 := ⟨M7.out.wrt.os.trans HL.out.low.os, M7.out.wrt.tape.trans HL.out.low.tape, M7.out.wrt.output.trans HL.out.low.output, by omega, fun k hk => (M7.out.wrt.block k (by omega) (by omega) (by omega)).trans (HL.out.low.block k hk)⟩
        have HB9 : Hid (Below w.heap.size w w9) := by
          refine (hlow7.alloc (by omega) _).grown hgrow (by simp; omega) ?_
          intro k hk
          have := (World.ownsRow.lt HOW.out k hk).1
          omega
        have hk9 : Keeps w7 w9 := (Keeps.below ((Below.refl _ _).alloc (Nat.le_refl _) _)).trans (Keeps.grown hgrow ((HOT.out.alloc _).rowT (by decide)))
        have HS9 : Hid (Syms w9 (m3 ++ [((w1' + w2', s1 ++ s2), .slice (some ⟨g7, 0, none⟩) n7 c7)])) := by
          intro z hz
          rcases List.mem_append.1 hz with hz | hz
          · exact ((HL.out.sym.sub HSB.out).keeps (M7.out.kp.trans hk9)) z hz
          · rw [List.mem_singleton.1 hz]
            exact S7.out.keeps hk9
        have HI9 : Hid (IsI w9 w.heap.size 2 (up (incs (incs d s1) s2))) := by
          unfold Hid IsI
          rw [hgrow.block w.heap.size (by simp; omega) (by simp [Value.ownBlock]; omega), Below.heap_alloc _ _ _ (by omega)]
          exact M7.out.len
        have HM9 : Hid (mt (m3 ++ [((w1' + w2', s1 ++ s2), .slice (some ⟨g7, 0, none⟩) n7 c7)]) = join (mt m)) := by
          unfold Hid
          rw [← HJE.out]
          unfold mt
          rw [List.map_append]
          rfl
        have HLN : Hid ((m3 ++ [(((w1' + w2', s1 ++ s2), .slice (some ⟨g7, 0, none⟩) n7 c7) : MT)]).length = k2 + 1) := by
          unfold Hid
          rw [List.length_append, HL3.out]
          rfl
        have HNE9 : Hid (∀ z ∈ m3 ++ [(((w1' + w2', s1 ++ s2), .slice (some ⟨g7, 0, none⟩) n7 c7) : MT)], 0 < z.1.2.length) := by
          intro z hz
          rcases List.mem_append.1 hz with hz | hz
          · exact HL.out.ne z (HSB.out z hz)
          · rw [List.mem_singleton.1 hz]
            exact HNE.out
        obtain ⟨x9, q9, hv9⟩ : ∃ x q, v9 = .slice x (k2 + 1) q := by
          obtain ⟨g9, q9, _, hv9, _⟩ := HO9.out.parts (by rw [HLN.out]; omega)
          rw [HLN.out] at hv9
          exact ⟨_, q9, hv9⟩
        subst hv9
        have HLP9 : Hid (Lp w1.heap.size w.heap.size n c.sum w w9 (.slice x9 (k2 + 1) q9) (m3 ++ [((w1' + w2', s1 ++ s2), .slice (some ⟨g7, 0, none⟩) n7 c7)]) (incs (incs d s1) s2)) :=
          ⟨HO9.out, HS9.out, HI9.out, by rw [HM9.out, HDQ.out]; exact HJI.out, by rw [HM9.out, HJN.out]; exact HL.out.few, by rw [incs_length, incs_length]; exact HL.out.dn, HNE9.out, HB9.out, HL.out.lo, HL.out.hi⟩
        have HRU9 : Hid (depths c = run (m3 ++ [(((w1' + w2', s1 ++ s2), .slice (some ⟨g7, 0, none⟩) n7 c7) : MT)]).length (mt (m3 ++ [((w1' + w2', s1 ++ s2), .slice (some ⟨g7, 0, none⟩) n7 c7)])) (incs (incs d s1) s2)) := by
          have h3 := HRU.out
          have h4 := HRM.out
          rw [mt_length] at h4
          rw [h4, ← HDQ.out, ← HM9.out, mt_length] at h3
          exact h3
        clear hown hgrow hlow7 hk9 c50 c51 z50 z51 c60 c61 z60 z61
        have hk21 : k2 + 1 ≤ n := by have := HK2.out; omega
        go_wp2_with fail
        go_roundw
        case rel => exact ⟨_, _, x9, k2 + 1, q9, rfl, HLN.out.symm, hk21, HRU9.out, HLP9.out⟩
        case measure => have := HK2.out; simp; omega
      · have h2' : decide ((1 : Int) < (k : Int)) = false := by simp; omega
        have HF : Hid (depths c = d) := HRU.out.trans (run_done _ _ _ (by rw [mt_length, ← HKM.out]; omega))
        go_wp2_with fail
        go_ret
        exact ⟨rfl, by rw [HF.out]; exact HL.out.len, HL.out.low⟩
end Go.Proofs.YtjdlgpnhkfdehaaGreatDoor.Hf


/- The walk of impl.LengthsOf. -/
namespace Go.Proofs.YtjdlgpnhkfdehaaGreatDoor.Hf
open Go.RowKit
open Go.Proofs.YtjdlgpnhkfdehaaGreatDoor.In (IsI irow Ints OwnI)
open Go.Proofs.YtjdlgpnhkfdehaaGreatDoor.Bi (within within_yes within_of within_impl)
def sumAt (W : World) : Value → Nat
  | .slice (some ⟨b, off, _⟩) n _ => ((List.range n).map fun j => match W.cell? ⟨b, off + j, none⟩ with | some (.int _ x) => x.toNat | _ => 0).sum
  | _ => 0
theorem sumAt_ints {W : World} {B n q : Nat} {x : Option Addr} {c : List Nat} (h : Ints W B x (up c)) (hn : c.length = n) : sumAt W (.slice x n q) = c.sum := by
  rcases h with h0 | ⟨b, off, rfl, _, hc⟩
  · have hc0 : c = [] := by
      have := congrArg List.length h0
      rw [up_length] at this
      exact List.eq_nil_of_length_eq_zero this
    subst hc0
    subst hn
    cases x <;> rfl
  · have e : ((List.range n).map fun j => match W.cell? ⟨b, off + j, none⟩ with | some (.int _ x) => x.toNat | _ => 0) = c := by
     apply List.ext_getElem
     · simp [hn]
     · intro j h1 h2
       rw [List.getElem_map, List.getElem_range, hc j (by rw [up_length]; exact h2), up_at c j h2, List.getD_eq_getElem?_getD, List.getElem?_eq_getElem h2]
       simp
    exact congrArg List.sum e
theorem own_of {W : World} {g base n : Nat} {l : List Int} (h : IsI W g 2 l) (hg : base ≤ g) (hn : l.length = n) (hm : n ≤ 1048576) : OwnI W base (.slice (some ⟨g, 0, none⟩) n n) l := by
  subst hn
  refine ⟨by simp, .inr ⟨g, l.length, irow l, rfl, hg, h, Nat.le_refl _, by unfold maxLen; omega, by rw [In.irow_size, Nat.mul_one], ?_⟩⟩
  unfold irow
  rw [List.take_of_length_le (by simp)]
theorem within_okay (d : List Nat) (h : d.length ≤ 257) : within (up d) 12 = okay d := by
  cases ho : okay d with
  | true =>
    refine within_of (by rw [up_length]; exact h) fun x hx => ?_
    obtain ⟨y, hy, rfl⟩ := List.mem_map.1 hx
    have := of_decide_eq_true (List.all_eq_true.1 ho y hy)
    omega
  | false =>
    refine Bool.eq_false_iff.2 fun hw => ?_
    have := (within_yes hw).2
    rw [Bool.eq_false_iff] at ho
    refine ho (List.all_eq_true.2 fun y hy => decide_eq_true ?_)
    have := (this (y : Int) (List.mem_map.2 ⟨y, hy, rfl⟩)).2
    omega
def nats (l : List Int) : List Nat := l.map Int.toNat
theorem up_nats (l : List Int) (m : Int) (h : within l m = true) : up (nats l) = l := by
  have := (within_yes h).2
  unfold up nats
  rw [List.map_map]
  conv => rhs; rw [← List.map_id l]
  refine List.map_congr_left fun x hx => ?_
  have := this x hx
  show ((x.toNat : Nat) : Int) = x
  omega
def lensR (l : List Int) : List Int := if within l 10000 = true then up (lenOf (nats l)) else []
theorem flat_small (c : List Nat) (h : ∀ x ∈ c, x ≤ 10000) : ∀ x ∈ flat c, x ≤ 10000 := by
  intro x hx
  obtain ⟨y, hy, rfl⟩ := List.mem_map.1 hx
  have := h y hy
  split <;> omega
set_option maxRecDepth 100000 in
set_option maxHeartbeats 600000 in
theorem lengths_impl (a : Option Addr) (cap : Nat) (l : List Int) (w : World) (h : Ints w w.heap.size a l) (hl : l.length ≤ 1048576) :
    Calls Tryz.prog 108 #[.slice a l.length cap] w fun e w' => ∃ v, e = .returned v ∧ OwnI w' w.heap.size v (lensR l) ∧ Below w.heap.size w w' := by
  have HW := hideH (within_impl l 10000 a cap w.heap.size w h hl)
  cases hw : within l 10000 with
  | false =>
    have HR : Hid (lensR l = []) := if_neg (by rw [hw]; decide)
    rw [hw] at HW
    generalize l.length = n at HW ⊢
    go_enter Tryz.func108, Tryz.ntmps108
    go_wp2_with fail
    refine HW.out.mono ?_
    rintro e w1 ⟨rfl, hw1⟩
    subst w1
    go_wp2_with fail
    go_ret
    exact ⟨_, rfl, by rw [HR.out]; exact OwnI.nil _ _, Below.refl _ _⟩
  | true =>
    have hlen := (within_yes hw).1
    have hup := up_nats l 10000 hw
    have HR : Hid (lensR l = up (lenOf (nats l))) := if_pos hw
    have HI : Hid (Ints w w.heap.size a (up (nats l))) := by rw [hup]; exact h
    have HM : Hid (∀ x ∈ nats l, x ≤ 10000) := by
      intro x hx
      obtain ⟨y, hy, rfl⟩ := List.mem_map.1 hx
      have := (within_yes hw).2 y hy
      omega
    have HN : Hid ((nats l).length = l.length) := List.length_map ..
    rw [hw] at HW
    rw [HR.out]
    generalize nats l = c0 at HI HM HN
    generalize l.length = n at HW hlen HN ⊢
    clear hw hup h hl HR
    obtain ⟨R, hR⟩ : ∃ R, R = lenOf c0 := ⟨_, rfl⟩
    have HRR := hideH hR
    rw [← hR]
    clear hR
    go_enter Tryz.func108, Tryz.ntmps108
    go_wp2_with fail
    refine HW.out.mono ?_
    rintro e w1 ⟨rfl, hw1⟩
    subst w1
    go_wp2_with fail
    refine (depths_any a cap n c0 w HI.out HN.out hlen HM.out).mono ?_
    rintro e w2 ⟨rfl, hi2, hb2⟩
    have HI2 := hideH hi2
    have HB2 := hideH hb2
    have hz2 := hi2.lt
    clear hi2 hb2
    go_wp2_with fail
    go_loopw [0, 3] (fun cv lv wr => ∃ (c : List Nat) (x : Option Addr) (q g : Nat), cv = .slice x n q ∧ lv = .slice (some ⟨g, 0, none⟩) n n ∧ Ints wr wr.heap.size x (up c) ∧ c.length = n ∧ (∀ y ∈ c, y ≤ 10000) ∧ R = lenOf c ∧ IsI wr g 2 (up (depths c)) ∧ w.heap.size ≤ g ∧ Below w.heap.size w wr) (fun cv _ wr => sumAt wr cv)
    case atStart => exact ⟨c0, a, cap, w.heap.size, rfl, rfl, (HI.out.below HB2.out).mono HB2.out.size, HN.out, HM.out, HRR.out, HI2.out, Nat.le_refl _, HB2.out⟩
    case round =>
      obtain ⟨c, x, q, g, rfl, rfl, hxi, hcn, hcm, hcr, hgi, hgl, hbw⟩ := hrel
      have XI := hideH hxi
      have CN := hideH hcn
      have CM := hideH hcm
      have CR := hideH hcr
      have GI := hideH hgi
      have BW := hideH hbw
      have HWI := hideH (within_impl (up (depths c)) 12 (some ⟨g, 0, none⟩) n wr.heap.size wr (hgi.ints hgi.lt) (by rw [up_length, depths_length, hcn]; omega))
      rw [up_length, depths_length, hcn, within_okay _ (by rw [depths_length, hcn]; exact hlen)] at HWI
      have hzw := hbw.size
      clear hxi hcn hcm hcr hgi hbw
      cases hok : okay (depths c) with
      | true =>
        have HF : Hid (R = depths c) := CR.out.trans (lenOf_yes c hok)
        rw [hok] at HWI
        clear hok
        go_wp2_with fail
        refine HWI.out.mono ?_
        rintro e w3 ⟨rfl, hw3⟩
        subst w3
        go_wp2_with fail
        go_ret
        exact ⟨_, rfl, by rw [HF.out]; exact own_of GI.out hgl (by rw [up_length, depths_length, CN.out]) (by omega), BW.out⟩
      | false =>
        have HNO := hideH (lenOf_no c (by have := CN.out; omega) (by rw [hok]; decide))
        have HLT := hideH (flat_more c (by have := CN.out; omega) (by rw [hok]; decide))
        rw [hok] at HWI
        clear hok
        go_wp2_with fail
        refine HWI.out.mono ?_
        rintro e w3 ⟨rfl, hw3⟩
        subst w3
        go_wp2_with fail
        refine (flat_any x q n c wr XI.out CN.out hlen CM.out).mono ?_
        rintro e w4 ⟨rfl, hi4, hb4⟩
        have I4 := hideH hi4
        have B4 := hideH (BW.out.trans (hb4.mono hzw))
        have hz4 := hi4.lt
        clear hi4 hb4
        go_wp2_with fail
        have CN4 : Hid ((flat c).length = n) := by rw [flat_length]; exact CN.out
        refine (depths_any (some ⟨wr.heap.size, 0, none⟩) n n (flat c) w4 (I4.out.ints hz4) CN4.out hlen (flat_small c CM.out)).mono ?_
        rintro e w5 ⟨rfl, hi5, hb5⟩
        have I5 := hideH hi5
        have I4' := hideH ((I4.out.below hb5 hz4))
        have B5 := hideH (B4.out.trans (hb5.mono (by omega)))
        have hz5 := hb5.size
        clear hi5 hb5
        go_wp2_with fail
        go_roundw
        case rel => exact ⟨flat c, some ⟨wr.heap.size, 0, none⟩, n, w4.heap.size, rfl, rfl, I4'.out.ints I4'.out.lt, CN4.out, flat_small c CM.out, CR.out.trans HNO.out, I5.out, by omega, B5.out⟩
        case measure =>
          have e1 := sumAt_ints (q := q) XI.out CN.out
          have e2 := sumAt_ints (q := n) (I4'.out.ints I4'.out.lt) CN4.out
          have e3 := HLT.out
          rw [← e1, ← e2] at e3
          exact e3
end Go.Proofs.YtjdlgpnhkfdehaaGreatDoor.Hf

