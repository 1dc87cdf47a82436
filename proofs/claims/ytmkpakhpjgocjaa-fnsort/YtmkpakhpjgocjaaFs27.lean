/- Texts put together: SoSorted, OrdImpl. -/
import Derived.Test.YtmkpakhpjgocjaaFs1
import Derived.Test.YtmkpakhpjgocjaaFs26
import Derived.Test.YtmkpakhpjgocjaaFs2
import Derived.Test.YtmkpakhpjgocjaaFs17
/- What the program's sortedTurns answers. -/
namespace Go.Proofs.Ytmkpakhpjgocjaa.So
open Go.RowKit Go.Sort Go.Proofs Go.Shelf

attribute [local go_sem] Oper.semAt_some

theorem Try.infoU88 : (Try.prog.info? 88).map (fun i => (i.zero, i.size, i.bytes)) = some (some (.agg #[.int .i64 0, .string ⟨#[]⟩]), 2, 24) := by kernel_rfl

set_option maxHeartbeats 1000000 in
theorem sortStable_T (T : Nat → ByteArray) (blk cap : Nat) (d : Array Nat) (w : World) (hH : HoldsK (encT T) 2 w blk 0 d) (hblk : blk < w.heap.size) (hsz : d.size ≤ 1048576) (hid : ∀ i, i < d.size → dF d i = i) :
    Calls Try.prog 132 #[.slice (some ⟨blk, 0, none⟩) d.size cap, .func (.func 133) #[] #[]] w fun e w' =>
      e = .returned (.tuple #[]) ∧ ∃ n d' os, w' = sortWorldK (encT T) 2 w blk 0 n d' os ∧ d'.size = d.size ∧ PermF 0 d.size (dF d) (dF d') ∧ Ris (clT T) 0 d.size (dF d') := by
  have HS := hideO (stable_T T blk cap d w hH hblk hsz hid)
  clear hH hid
  generalize d.size = z at HS hsz ⊢
  go_enter Try.func132, Try.ntmps132
  go_wp2_with fail
  refine HS.out.mono ?_
  rintro e w' ⟨rfl, n, d', os, hw, hs, hp, hr⟩
  have HX : Hid (∃ n d' os, w' = sortWorldK (encT T) 2 w blk 0 n d' os ∧ d'.size = z ∧ PermF 0 z (dF d) (dF d') ∧ Ris (clT T) 0 z (dF d')) := ⟨n, d', os, hw, hs, hp, hr⟩
  clear hw hs hp hr
  go_wp2_with fail
  refine bodyPost_end (v := .tuple #[]) (by simp [results, Try.results132, go_sem]) rfl ⟨rfl, HX.out⟩

theorem world_type {enc : Nat → List Value} {k : Nat} {w : World} {blk off : Nat} {cur : Array Value} {t : TypeId} {fr : Nat × Nat} (h : w.heap[blk]? = some (.cells cur t fr)) (m : Nat) (d' : Array Nat) (os : Array Obj) : ∃ cur', (sortWorldK enc k w blk off m d' os).heap[blk]? = some (.cells cur' t fr) := by
  have hlt := (Array.getElem?_eq_some_iff.1 h).1
  unfold sortWorldK
  rw [heap_grow_old _ _ (by rw [size_putRowK]; exact hlt)]
  unfold putRowK putRow mapBlock
  simp only [Array.getElem?_modify, if_true]
  have h2 : (Go.Sort.ahead w m).heap[blk]? = some (.cells cur t fr) := h
  rw [h2]
  exact ⟨_, rfl⟩

/-- the cells of turns, one behind the other -/
def flatT (T : Nat → ByteArray) (l : List Nat) : List Value := l.flatMap (encT T)
theorem flatT_snoc (T : Nat → ByteArray) (l : List Nat) (x : Nat) : flatT T (l ++ [x]) = flatT T l ++ [.int .i64 (x : Nat), .string (T x)] := by simp [flatT, encT]
theorem flatT_len (T : Nat → ByteArray) (l : List Nat) : (flatT T l).length = l.length * 2 := by
  induction l with
  | nil => rfl
  | cons x l ih => simp [flatT, encT] at ih ⊢; omega
theorem flatT_get (T : Nat → ByteArray) (l : List Nat) (i c : Nat) (hi : i < l.length) (hc : c < 2) : (flatT T l)[i * 2 + c]? = some (encT T l[i])[c]! := by
  induction l generalizing i with
  | nil => simp at hi
  | cons x l ih =>
    cases i with
    | zero =>
      have : c = 0 ∨ c = 1 := by omega
      rcases this with rfl | rfl <;> simp [flatT, encT]
    | succ i =>
      have := ih i (by simpa using hi)
      rw [show flatT T (x :: l) = encT T x ++ flatT T l from rfl, List.getElem?_append_right (by rw [encT_len]; omega), encT_len, show (i + 1) * 2 + c - 2 = i * 2 + c by omega, this]
      rfl
theorem two_newT (W : World) (x y : Value) (t : TypeId) : ∀ (j : Nat) (u : Value), [x, y][j]? = some u → (W.alloc (.cells #[x, y] t)).cell? ((⟨W.heap.size, 0, none⟩ : Addr).add j) = some u := by
  intro j u hj
  match j, hj with
  | 0, hj => simp at hj; subst hj; simp [Addr.add]
  | 1, hj => simp at hj; subst hj; simp [Addr.add]
/-- a row that the call has made, as the sort sees it -/
theorem holds_of_own {T : Nat → ByteArray} {w : World} {base g n cap : Nat} {l : List Nat} {e : TypeId} (h : w.ownsRow base e 2 (.slice (some ⟨g, 0, none⟩) n cap) l.length (flatT T l)) : HoldsK (encT T) 2 w g 0 l.toArray := by
  obtain ⟨_, h⟩ := h
  rcases h with ⟨h, _⟩ | ⟨g', cap', cur, hv, _, hb, _, _, _, htk⟩
  · cases h
  · have hg : g = g' := by simp at hv; exact hv.1
    subst hg
    intro j hj
    rw [size_flatK] at hj
    have hj' : j < l.length * 2 := by simpa using hj
    rw [get_flatK _ _ _ _ hj, Nat.zero_add]
    have hi : j / 2 < l.length := by omega
    refine ⟨?_, frozen_of_row w g j _ e hb⟩
    rw [cell_of_row w g j _ e (0, 0) hb, ← Array.getElem?_toList]
    have h1 : cur.toList[j]? = (cur.toList.take (l.length * 2))[j]? := by rw [List.getElem?_take_of_lt hj']
    rw [h1, htk]
    have h2 := flatT_get T l (j / 2) (j % 2) hi (by omega)
    rw [show j / 2 * 2 + j % 2 = j by omega] at h2
    rw [h2]
    have h3 : l.toArray[j / 2]! = l[j / 2] := by simp [hi]
    rw [h3]
    rfl

set_option maxRecDepth 100000 in
set_option maxHeartbeats 4000000 in
theorem sorted_T (t : ByteArray) (ht : t.size ≤ 1048576) (w : World) :
    Calls Try.prog 98 #[.string t] w fun e w' => ∃ g cap d, e = .returned (.slice (some ⟨g, 0, none⟩) t.size cap) ∧ w.heap.size ≤ g ∧ g < w'.heap.size ∧ HoldsK (encT (turnV t)) 2 w' g 0 d ∧ d.size = t.size ∧ (seg (dF d) 0 t.size).Perm (List.range t.size) ∧ Ris (clT (turnV t)) 0 t.size (dF d) ∧ (∃ cur, w'.heap[g]? = some (.cells cur 88 (0, 0))) ∧ Below w.heap.size w w' := by
  obtain ⟨i0, hi, hz0, hz1, hz2⟩ := info_parts Try.infoU88
  refine (callsIn_wide (n := 3)).1 ?_
  refine callsIn_of_wp_marks Try.func98 rfl trivial ?_ rfl
  simp only [Try.ntmps98, List.size_toArray, List.length_cons, List.length_nil, Nat.reduceAdd, Nat.reduceSub, Array.replicate_succ, Array.replicate_zero, List.push_toArray, List.append_toArray, List.nil_append, List.cons_append]
  gi_wp2_with (first | (gi_at_make; refine wpListIn_make_own _ rfl _ _ 85 rfl w.heap.size 88 i0 _ 2 Try.underlying85 hi hz0 hz1 .i64 .i64 _ t.size rfl rfl (by simp) (by rw [hz2]; omega) (by unfold maxLen; omega) (Nat.le_refl _) ?_; intro w1 hown1 hgrow1) | (gi_at_call 131; refine (turnsOf_in Fence.wide _ trivial rfl _ _).mono ?_; rintro e w' ⟨rfl, rfl⟩))
  refine ⟨trivial, (turnsOf_in Fence.wide 2 trivial rfl _ _).mono ?_⟩
  rintro e w' ⟨rfl, rfl⟩
  have z1 := hgrow1.size
  have hb1 : Below w.heap.size w w1 := (Below.refl _ _).grown hgrow1 (Nat.le_refl _) (by simp)
  have zg : w.heap.size < w1.heap.size := (hown1.lt w.heap.size rfl).2
  obtain ⟨B0, hB0⟩ : ∃ B0, B0 = w1.heap.size := ⟨_, rfl⟩
  have bV := Boxed.new w1 85 (.slice (some ⟨w.heap.size, 0, none⟩) 0 t.size)
  have bS := Boxed.new (w1.alloc (.cells #[.slice (some ⟨w.heap.size, 0, none⟩) 0 t.size] 85)) 9 (.string t)
  have bV2 := bV.alloc (.cells #[.string t] 9)
  have hr2 := (hown1.alloc (.cells #[.slice (some ⟨w.heap.size, 0, none⟩) 0 t.size] 85)).alloc (.cells #[.string t] 9)
  have hb2 : Below w.heap.size w ((w1.alloc (.cells #[.slice (some ⟨w.heap.size, 0, none⟩) 0 t.size] 85)).alloc (.cells #[.string t] 9)) := (hb1.alloc (by omega) _).alloc (by simp; omega) _
  rw [World.size_alloc] at bS
  rw [← hB0] at bV2 bS
  rw [← hB0] at zg
  have hsz : ((w1.alloc (.cells #[.slice (some ⟨w.heap.size, 0, none⟩) 0 t.size] 85)).alloc (.cells #[.string t] 9)).heap.size = B0 + 2 := by simp [hB0]
  gi_wp2
  rw [← hB0]
  generalize (w1.alloc (.cells #[.slice (some ⟨w.heap.size, 0, none⟩) 0 t.size] 85)).alloc (.cells #[.string t] 9) = W0 at bV2 bS hr2 hb2 hsz ⊢
  clear bV hown1 hgrow1 hb1 hB0 z1
  refine wpIn_rangeFunc_ownH rfl (by decide) (gf := 153) (lb := #[.pointer (some ⟨B0 + 1, 0, none⟩)]) rfl trivial (enters_of Try.func153 (by kernel_rfl) rfl)
    (turns_stops 2 (B0 + 1) t ht W0 (by omega) bS.cell) (fun h1 h2 => h1.trans h2)
    (fun W l o o' hl h1 h2 h3 => (belowK_b (w := W0) (n₀ := B0 + 2) (by omega) W l o o' hl h1 h2 h3).cell (p := ⟨B0 + 1, 0, none⟩) (by simp)) (Below.refl _ _) (fun _ => rfl)
    (fun pre W => ((∃ v, Boxed W B0 85 v ∧ W.ownsRow w.heap.size 88 2 v pre.length (flatT (turnV t) pre) ∧ v ≠ .slice none 0 0) ∧ Boxed W (B0 + 1) 9 (.string t)) ∧ Below w.heap.size w W)
    (fun _ _ _ => False)
    (OwnFrom.and (OwnFrom.and (Own.from (holdsRow_own w.heap.size B0 85 88 2 (fun pre => pre.length) (fun pre => flatT (turnV t) pre) (fun _ v => v ≠ .slice none 0 0)) _) (Own.from (boxed_own _ _ _) _)) (ownFrom_below (Nat.le_refl _) (by omega)))
    (fun _ _ _ _ _ hs _ _ => hs)
    ⟨⟨⟨_, bV2, hr2, by simp⟩, bS⟩, hb2⟩
    (fun x a' W => ∃ Bx, B0 + 1 < Bx ∧ W.heap[Bx]? = some (.cells #[.int .i64 (x : Nat), .string (turnV t x)] 88 (0, 0)) ∧ a' = { tmps := #[.string t, undef, .slice none 0 0, .pointer (some ⟨B0, 0, none⟩), .pointer (some ⟨Bx, 0, none⟩), .string t, .int .i64 t.size, .slice (some ⟨w.heap.size, 0, none⟩) 0 t.size, .string t, .func (.func 153) #[] #[.pointer (some ⟨B0 + 1, 0, none⟩)], .agg #[.int .i64 (x : Nat), .string (turnV t x)], undef, undef, undef, undef, undef, undef, undef], defers := [] })
    (fun x a' _ X Y row hs hg hr => by
      obtain ⟨Bx, h1, h2, h3⟩ := hs
      refine ⟨Bx, h1, (hg.block Bx (Array.getElem?_eq_some_iff.1 h2).1 (fun e => ?_)).trans h2, h3⟩
      obtain ⟨o, ho, hc⟩ := (hr Bx e.symm).2
      rw [h2] at ho
      cases ho
      cases hc)
    ?assign ?body ?done ?stop
  case assign =>
    rintro l pre x W K ⟨⟨⟨v, hv, hrow, hn⟩, hs⟩, hB⟩ hK
    gi_wp2
    exact hK _ _ ((KeepsOthers.alloc _ _).from _) ((hs.alloc _).cell.trans hs.cell.symm) ⟨⟨⟨v, hv.alloc _, hrow.alloc _, hn⟩, hs.alloc _⟩, hB.alloc hB.size _⟩ ⟨W.heap.size, hs.lt, World.alloc_heap_new W _, rfl⟩
  case body =>
    rintro l pre x a' W hl ⟨r, hr⟩ ⟨⟨⟨v, hv, hrow, hn⟩, hs⟩, hB⟩ ⟨Bx, hBx, hX, rfl⟩ hlt
    have hc := hv.cell
    have x0 : W.cell? ⟨Bx, 0, none⟩ = some (.int .i64 (x : Nat)) := by rw [cell_of_row W Bx 0 _ _ (0, 0) hX]; rfl
    have x1 : W.cell? ⟨Bx, 1, none⟩ = some (.string (turnV t x)) := by rw [cell_of_row W Bx 1 _ _ (0, 0) hX]; rfl
    have hzw := hB.size
    gi_wp2_with (gi_at_builtin; refine wpListIn_append_own _ rfl _ _ 85 rfl w.heap.size 88 i0 _ 2 24 Try.underlying85 hi hz0 hz1 hz2 rfl (by decide) _ _ _ rfl (hrow.alloc _) ⟨W.heap.size, 0, none⟩ 1 1 [.int .i64 (x : Nat), .string (turnV t x)] rfl rfl (two_newT _ _ _ _) (by intro u hu; simp at hu; rcases hu with rfl | rfl <;> rfl) (by unfold maxLen; omega) (by omega) (by simp; omega) ?_; intro v' w1 hown' hgrow _; obtain ⟨g', cap', rfl⟩ := ownsRow_succ hown'; obtain ⟨hv1, hv2, hr2, hk2, hb2⟩ := hv.appended (by decide) hrow hB.size (by omega) hown' hgrow; have hc1 := hv1.cell; have hf1 := hv1.frozen; have hs1 := (hs.alloc _).kept hgrow (hs.not_row (by decide) hrow))
    have hs2 := (hs1.kept (grownBy_setCell' w1 B0 _) (by simp) : Boxed (w1.setCell ⟨B0, 0, none⟩ (.slice (some ⟨g', 0, none⟩) (pre.length + 1) cap')) (B0 + 1) 9 (.string t))
    exact ⟨hk2.from _, hs2.cell.trans hs.cell.symm, ⟨⟨_, hv2, by rw [flatT_snoc, List.length_append]; exact hr2, by simp⟩, hs2⟩, hB.trans hb2⟩
  case done =>
    rintro D ys W hD rfl ⟨⟨⟨v, hv, hrow, hn⟩, hs⟩, hB⟩ hK
    have hrow' := hrow
    obtain ⟨_, hrr⟩ := hrow'
    rcases hrr with ⟨rfl, _⟩ | ⟨g, cap, cur, rfl, hg, hgb, _⟩
    · exact absurd rfl hn
    · have hgl : g < W.heap.size := (Array.getElem?_eq_some_iff.1 hgb).1
      have hH := holds_of_own hrow
      have hds : (List.range t.size).toArray.size = t.size := by simp
      have hid : ∀ i, i < (List.range t.size).toArray.size → dF (List.range t.size).toArray i = i := fun i hi => by
        have : i < t.size := by simpa using hi
        simp [dF, this]
      have HS := hideO (sortStable_T (turnV t) g cap (List.range t.size).toArray W hH hgl (by rw [hds]; exact ht) hid)
      rw [hds] at HS
      have hg0 : g ≠ B0 := fun e => by
        have h1 : W.heap[B0]? = _ := hv
        rw [← e, hgb] at h1
        simp at h1
      have hgD : g ≠ D := fun e => by
        rw [← e, hgb] at hK
        cases hK
      have hc := hv.cell
      rw [List.length_range] at hc hv
      have HV := hideO hv
      have HB := hideO hB
      have HK := hideO hK
      have HHd := hideO hH
      have hB0W := hv.lt
      have hDW : D < W.heap.size := (Array.getElem?_eq_some_iff.1 hK).1
      have HPI : Hid (seg (dF (List.range t.size).toArray) 0 t.size = List.range t.size) := by
        unfold Hid
        rw [seg_congr (f := dF (List.range t.size).toArray) (g := fun i => i) fun i _ h => hid i (by rw [hds]; exact h)]
        unfold seg
        rw [Nat.sub_zero, List.map_id', List.range_eq_range']
      have HTY := hideO hgb
      clear hrow hn hs hv hB hK hH hid hgb
      gi_wp2
      refine ⟨trivial, (callsIn_wide.2 HS.out).mono ?_⟩
      rintro e w' ⟨rfl, n, d', os, hw', hs', hp', hr'⟩
      have hbV : w'.heap[B0]? = W.heap[B0]? := by rw [hw']; exact world_block n d' os hB0W (fun h => hg0 h.symm)
      have hc2 : w'.cell? ⟨B0, 0, none⟩ = some (.slice (some ⟨g, 0, none⟩) t.size cap) := by
        have : Boxed w' B0 85 (.slice (some ⟨g, 0, none⟩) t.size cap) := hbV.trans HV.out
        exact this.cell
      have hK2 : w'.heap[D]? = some (.deferred (some [])) := by rw [hw', world_block n d' os hDW (fun h => hgD h.symm)]; exact HK.out
      have HH2 : Hid (HoldsK (encT (turnV t)) 2 w' g 0 d') := by
        unfold Hid
        rw [hw']
        exact world_holds HHd.out hgl n d' os (by rw [hs', hds])
      have HB2 : Hid (Below w.heap.size w w') := by
        unfold Hid
        rw [hw']
        exact HB.out.trans (world_below n d' os hg (by omega))
      have hgw : g < w'.heap.size := by rw [hw']; exact Nat.lt_of_lt_of_le hgl (world_size n d' os)
      have HP2 : Hid ((seg (dF d') 0 t.size).Perm (List.range t.size)) := by
        have := hp'.1
        rw [HPI.out] at this
        exact this
      have HTY2 : Hid (∃ cur', w'.heap[g]? = some (.cells cur' 88 (0, 0))) := by
        unfold Hid
        rw [hw']
        exact world_type HTY.out n d' os
      have HR2 := hideO hr'
      have HS2 := hideO hs'
      clear hw' hs' hp' hr' hbV
      gi_wp2
      refine ⟨by simp, .inl ⟨_, _, rfl, run_takeDeferred hK2, ?_⟩⟩
      refine ⟨_, results_tmp rfl _ _ _, g, cap, d', rfl, hg, ?_, ?_, HS2.out, HP2.out, HR2.out, ?_, ?_⟩
      · simpa [World.putObj] using hgw
      · exact holds_block HH2.out (World.putObj_heap_other hgD)
      · rw [World.putObj_heap_other hgD]
        exact HTY2.out
      · exact HB2.out.trans (belowK_b (w := w) (Nat.le_refl _) w' D _ _ (by omega) hK2 rfl rfl)
  case stop =>
    rintro D c pre W _ _ h _
    exact h.elim
end Go.Proofs.Ytmkpakhpjgocjaa.So

/- What the program's OrderOf answers. -/
namespace Go.Proofs.Ytmkpakhpjgocjaa.So
open Go.RowKit Go.Sort Go.Proofs
open Go.Proofs.Ytmkpakhpjgocjaa.In (OwnI one_newI one_cellI)
open Go.Proofs.Ytmkpakhpjgocjaa.In.Try (infoI2)

/-- a row of numbers does not lie in a row of turns -/
theorem own_not {w : World} {base g : Nat} {v : Value} {l : List Int} {cur : Array Value} {t : TypeId} (h : OwnI w base v l) (hg : w.heap[g]? = some (.cells cur t (0, 0))) (ht : t ≠ 2) : ∀ k, v.ownBlock = some k → k ≠ g := by
  intro k hk e
  subst e
  obtain ⟨_, h⟩ := h
  rcases h with ⟨rfl, _⟩ | ⟨g', cap, c, rfl, _, hb, _⟩
  · simp [Value.ownBlock] at hk
  · simp [Value.ownBlock] at hk
    subst hk
    rw [hb] at hg
    simp at hg
    exact ht hg.2.symm

set_option maxRecDepth 100000 in
set_option maxHeartbeats 1000000 in
theorem orderOf_impl (t : ByteArray) (w : World) (hn : t.size ≤ 1048576) :
    Calls Try.prog 43 #[.string t] w fun e w' => ∃ v, e = .returned v ∧ OwnI w' w.heap.size v (ordR t) ∧ Below w.heap.size w w' := by
  obtain ⟨i0, hi0, hz0, hz1, hz2⟩ := info_parts infoI2
  by_cases hlong : 48 < t.size
  · rw [ordR_no hlong]
    go_enter Try.func43, Try.ntmps43
    go_wp2_with fail
    go_ret
    exact ⟨_, rfl, OwnI.nil _ _, Below.refl _ _⟩
  · have hlong' : ¬ (48 : Int) < (t.size : Int) := by omega
    go_enter Try.func43, Try.ntmps43
    go_wp2_with (at_make; refine wpList_make_own _ rfl _ _ 23 rfl w.heap.size 2 i0 (.int .i64 0) 1 Try.underlying23 hi0 hz0 hz1 .i64 .i64 _ t.size rfl rfl (by simp) (by rw [hz2]; omega) (by unfold maxLen; omega) (Nat.le_refl _) ?_; intro w1 hown1 hgrow1)
    have HO1 : Hid (OwnI w1 w.heap.size (.slice (some ⟨w.heap.size, 0, none⟩) 0 t.size) []) := hown1
    have HB1 := hideO ((Below.refl w.heap.size w).grown hgrow1 (Nat.le_refl _) (by simp))
    have z1 := hgrow1.size
    clear hown1 hgrow1
    refine (sorted_T t hn w1).mono ?_
    rintro e w2 ⟨g, cap, d, rfl, hg1, hg2, hH, hds, hp, hr, ⟨cur, hty⟩, hb2⟩
    have HH := hideO hH
    have HTY := hideO hty
    have HO2 := hideO (HO1.out.below hb2)
    have HB2 := hideO (HB1.out.trans (hb2.mono z1))
    have HE := hideO (ordR_yes (by omega) (ord_seg hp hr))
    have z2 := hb2.size
    have HDS := hideO hds
    clear hH hty hp hr hb2 hds
    go_wp2_with fail
    go_loopw [15, 3] (fun i u wr => ∃ k : Nat, i = .int .i64 k ∧ k ≤ t.size ∧ OwnI wr w.heap.size u (ints (seg (dF d) 0 k)) ∧ wr.heap[g]? = w2.heap[g]? ∧ Below w.heap.size w wr) (fun i _ _ => t.size - (intOf i).toNat)
    case atStart => exact ⟨0, rfl, Nat.zero_le _, HO2.out, rfl, HB2.out⟩
    case round =>
      obtain ⟨k, rfl, hk, hown, hbg, hbel⟩ := hrel
      have G1 := hideO hown
      have GB := hideO hbel
      have HBG := hideO hbg
      have hsz := hbel.size
      obtain ⟨a', cap', rfl, _, _⟩ := hown.ints
      rw [ints_len, seg_len, Nat.sub_zero] at G1 ⊢
      clear hown hbel
      by_cases hlt : k < t.size
      · obtain ⟨x0c, _, x1c, _⟩ := cells_T (holds_block HH.out hbg) (i := k) (by rw [HDS.out]; exact hlt)
        have hkz : (k : Int) < (t.size : Int) := by omega
        have HN : Hid (ints (seg (dF d) 0 (k + 1)) = ints (seg (dF d) 0 k) ++ [((d[k]! : Nat) : Int)]) := by
          unfold Hid
          rw [seg_snoc, ints_snoc]
          rfl
        have HL : Hid ((ints (seg (dF d) 0 k)).length = k) := by
          unfold Hid
          rw [ints_len, seg_len]
          omega
        obtain ⟨x, hx⟩ : ∃ x, x = d[k]! := ⟨_, rfl⟩
        rw [← hx] at x0c x1c HN
        generalize turnV t x = tx at x1c
        obtain ⟨L, hL⟩ : ∃ L, L = ints (seg (dF d) 0 k) := ⟨_, rfl⟩
        rw [← hL] at HN HL G1
        have hgl : g < wr.heap.size := by
          have : w2.heap[g]? = some (.cells cur 88 (0, 0)) := HTY.out
          rw [← hbg] at this
          exact (Array.getElem?_eq_some_iff.1 this).1
        clear hx hL hbg
        go_wp2_with (at_builtin; refine wpList_append_own _ rfl (.tmp 19) (.tmp 22) 23 rfl w.heap.size 2 i0 (.int .i64 0) 1 8 Try.underlying23 hi0 hz0 hz1 hz2 rfl (by decide) _ k (L.map (Value.int .i64)) rfl ?own ⟨wr.heap.size + 1, 0, none⟩ 1 1 [.int .i64 (x : Nat)] rfl rfl ?new (one_cellI _) (by unfold maxLen; omega) (by omega) (by simp; omega) ?_)
        case own =>
          have := Ze.OwnI.alloc (Ze.OwnI.alloc G1.out (.cells #[.int .i64 (x : Nat), .string tx] 88)) (.cells #[.int .i64 (x : Nat)] 2)
          unfold OwnI at this
          rw [HL.out] at this
          exact this
        case new =>
          have := one_newI (wr.alloc (.cells #[.int .i64 (x : Nat), .string tx] 88)) (x : Nat) 2
          rw [World.size_alloc] at this
          exact this
        intro v' w5 hown' hgrow _
        have N5 : Hid (OwnI w5 w.heap.size v' (L ++ [(x : Int)])) := by
          apply In.OwnI.snoc
          rw [HL.out]
          exact hown'
        have hty : wr.heap[g]? = some (.cells cur 88 (0, 0)) := HBG.out.trans HTY.out
        have HG5 : Hid (w5.heap[g]? = w2.heap[g]?) := by
          unfold Hid
          rw [← HBG.out]
          have h1 := hgrow.block g (by simp; omega) (fun e => own_not G1.out hty (by decide) g e.symm rfl)
          rw [h1, Below.heap_alloc _ _ _ (by simp; omega), Below.heap_alloc _ _ _ hgl]
        have b5 := hideO (In.app_one (GB.out.alloc hsz _) (by simp; omega) (Nat.le_refl _) (Ze.OwnI.alloc G1.out _) hgrow)
        clear hown' hgrow hty
        go_wp2_with fail
        go_roundw
        case rel => exact ⟨k + 1, by go_num, by omega, by rw [HN.out]; exact N5.out, HG5.out, b5.out⟩
        case measure => simp [intOf]; omega
      · obtain rfl : k = t.size := by omega
        clear hbg
        go_wp2_with fail
        go_ret
        exact ⟨_, rfl, by rw [HE.out]; exact G1.out, GB.out⟩
end Go.Proofs.Ytmkpakhpjgocjaa.So
