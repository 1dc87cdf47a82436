/- Texts put together: DrawIncl, DrawNode. -/
import Derived.Test.YtghghkfhcpldhaaDoorTfDrawSpoil
import Derived.Test.YtghghkfhcpldhaaDoorTf9
/- What is drawn for the law on trees: a leaf, its place, a size, a list of digests, and a root. -/
namespace Go.Proofs.YtghghkfhcpldhaaDoor.Dr
open Go.RowKit
open Go.Proofs.YtghghkfhcpldhaaDoor.St (OwnS IsS IsO Strs one_newS one_cellS)
open Go.Proofs.YtghghkfhcpldhaaDoor.Tr (treeR pathR treeHash_spec pathOf_spec)

theorem results_tmpI {fn : Func} {t u v x y : Tmp} (h : fn.results = #[.tmp t, .tmp u, .tmp v, .tmp x, .tmp y]) (tmps : Array Value) (P : Program) (w : World) :
    (results fn tmps).run P w = .ok (.tuple #[tmps.getD t undef, tmps.getD u undef, tmps.getD v undef, tmps.getD x undef, tmps.getD y undef]) w := by
  simp [results, h]
theorem cells_fourI {w : World} {g : Nat} {t : TypeId} {x0 x1 x2 x3 : Int} (h : w.heap[g]? = some (.cells #[.int .i64 x0, .int .i64 x1, .int .i64 x2, .int .i64 x3] t (0, 0))) (k : Nat) (hk : k < 4) (h0 : x0 < 9223372036854775808) (h1 : x1 < 9223372036854775808) (h2 : x2 < 9223372036854775808) (h3 : x3 < 9223372036854775808 := by decide) :
    ∃ y : Int, w.cell? ⟨g, k, none⟩ = some (.int .i64 y) ∧ y < 9223372036854775808 := by
  have : k = 0 ∨ k = 1 ∨ k = 2 ∨ k = 3 := by omega
  rcases this with rfl | rfl | rfl | rfl
  · exact ⟨x0, (cell_of_row w g 0 _ t (0, 0) h).trans rfl, h0⟩
  · exact ⟨x1, (cell_of_row w g 1 _ t (0, 0) h).trans rfl, h1⟩
  · exact ⟨x2, (cell_of_row w g 2 _ t (0, 0) h).trans rfl, h2⟩
  · exact ⟨x3, (cell_of_row w g 3 _ t (0, 0) h).trans rfl, h3⟩
theorem path_all : ∀ (f : Nat) (l : List ByteArray) (m : Nat), l.length ≤ f → ∀ s ∈ Tr.path l m, s.size = 32 := by
  intro f
  induction f with
  | zero =>
    intro l m hf s hs
    rw [Tr.path_one l m (by omega)] at hs
    cases hs
  | succ f ih =>
    intro l m hf s hs
    by_cases h1 : l.length ≤ 1
    · rw [Tr.path_one l m h1] at hs
      cases hs
    · have h2 := Tr.half_lt l.length (by omega)
      have h3 := Tr.half_pos l.length
      by_cases hi : m < Tr.half l.length
      · rw [Tr.path_left l m (by omega) hi] at hs
        rcases List.mem_append.1 hs with h | h
        · exact ih _ _ (by rw [List.length_take]; omega) s h
        · rw [List.mem_singleton.1 h]
          exact Tr.tree_size _
      · rw [Tr.path_right l m (by omega) hi] at hs
        rcases List.mem_append.1 hs with h | h
        · exact ih _ _ (by rw [List.length_drop]; omega) s h
        · rw [List.mem_singleton.1 h]
          exact Tr.tree_size _
theorem pathR_all (l : List ByteArray) (i : Int) : ∀ s ∈ pathR l i, s.size = 32 := by
  intro s hs
  unfold pathR at hs
  split at hs
  · exact path_all _ l _ (Nat.le_refl _) s hs
  · cases hs
theorem pathR_len (l : List ByteArray) (i : Int) : (pathR l i).length ≤ l.length := by
  unfold pathR
  split
  · exact Tr.path_length _ l _ (Nat.le_refl _)
  · exact Nat.zero_le _
/-- what is drawn -/
def IncOut (w w' : World) (e : Ending) : Prop := ∃ leaf i n x d q root, e = .returned (.tuple #[.string leaf, .int .i64 i, .int .i64 n, .slice x (List.length q) d, .string root]) ∧ n < 9223372036854775808 ∧ Strs w' w'.heap.size x q ∧ q.length ≤ 67 ∧ q.length ≤ d ∧ Below w.heap.size w w'

set_option maxRecDepth 100000 in
set_option maxHeartbeats 8000000 in
theorem drawIncl_any (a : Option Addr) (len cap : Nat) (w : World) (hl : len ≤ 1048576) (hr : Row w w.heap.size a len) :
    Calls Tryd.prog 21 #[.slice a len cap] w fun e w' => IncOut w w' e := by
  obtain ⟨i0, hi, hz0, hz1, hz2⟩ := info_parts Tryd.infoT9
  have HR := hideD hr
  clear hr
  go_enter Tryd.func21, Tryd.ntmps21
  go_wp2_with fail
  refine (source_any a len cap _ hl HR.out).mono ?_
  rintro e w1 ⟨rfl, hs1, hb1, hz⟩
  have HB1 := hideD hb1
  clear hb1
  go_wp2_with fail
  refine (some_any w.heap.size a len cap _ hl hs1).mono ?_
  rintro e w2 ⟨v, l, rfl, ho2, hln, hle, hs2, ha2⟩
  have HB2 := hideD (ha2.below HB1.out (Nat.le_refl _) (by omega))
  have HO2 := hideD ho2
  have HS2 := hideD hs2
  have z2 : w1.heap.size ≤ w2.heap.size := ha2.size
  have HLE0 := hideD hle
  clear ho2 hs2 ha2 hle hs1
  go_wp2_with (at_builtin; refine wpList_append_own _ rfl (.tmp 17) (.tmp 18) 23 rfl w1.heap.size 9 i0 (.string ⟨#[]⟩) 1 16 Tryd.underlying23 hi hz0 hz1 hz2 rfl (by decide) _ _ _ rfl (own_alloc HO2.out _) ⟨w2.heap.size, 0, none⟩ 1 1 [.string ⟨#[101, 110, 100]⟩] rfl rfl (one_newS _ _ _) (one_cellS _) (by unfold maxLen; omega) (by omega) (by simp; omega) ?_)
  intro v3 w3 hown3 hgrow3 _
  have HO3 := hideD (OwnS.snoc hown3)
  have hb3 : Below w1.heap.size w2 w3 := St.app_one (Below.refl _ _) z2 (Nat.le_refl _) HO2.out hgrow3
  have HB3 := hideD (HB2.out.trans (hb3.mono (by omega)))
  have HS3 := hideD (HS2.out.stays fun j hj => hb3.block j (by omega))
  have z3 := hb3.size
  clear hown3 hgrow3 hb3
  obtain ⟨L, hL⟩ : ∃ L : List ByteArray, L = l ++ [⟨#[101, 110, 100]⟩] := ⟨_, rfl⟩
  have hLn : L.length ≤ 31 ∧ 1 ≤ L.length := by rw [hL, List.length_append]; simp; omega
  have HLE : Hid (∀ s ∈ L, s.size ≤ 101) := by
    rw [hL]
    exact all_snoc HLE0.out (by decide)
  rw [← hL] at HO3
  clear hL
  obtain ⟨g, c, rfl, hg, hgc, hio⟩ := own_some HO3.out (by omega)
  have HI3 := hideD hio
  clear hio
  obtain ⟨n, hn⟩ : ∃ n, n = L.length := ⟨_, rfl⟩
  have HN := hideD hn
  rw [← hn] at hLn hgc HO3 ⊢
  clear hn
  obtain ⟨hLn1, hLn2⟩ := hLn
  go_wp2_with fail
  refine (n_any w.heap.size a len cap n _ hl (by omega) HS3.out).mono ?_
  rintro e w4 ⟨r, rfl, q0, q1, hs4, ho4⟩
  obtain ⟨k, rfl⟩ := Int.eq_ofNat_of_zero_le q0
  have hk : k < n := by omega
  have HS4 := hideD hs4
  have HB4 := hideD (ho4.below HB3.out (Nat.le_refl _))
  have HI4 := hideD (HI3.out.of_heap (ho4.2.2.2.2 g (by omega)))
  have z4 : w4.heap.size = w3.heap.size := ho4.2.2.2.1
  clear hs4 ho4 q0 q1
  have HT3 := hideD (pathOf_spec L n k (some ⟨g, 0, none⟩) c w4.heap.size w4 HN.out.symm (by omega) (by omega) (HI4.out.strs HI4.out.lt) (Nat.le_refl _))
  have HPA : Hid (∀ s ∈ pathR L k, 1 ≤ s.size) := fun s hs => by
    have := pathR_all L k s hs
    omega
  have HPL := hideD (pathR_len L k)
  generalize pathR L k = pf at HT3 HPA HPL
  go_wp2_with fail
  refine HT3.out.mono ?_
  rintro e w5 ⟨vp, rfl, ho5, hb5⟩
  have HS5 := hideD (HS4.out.below hb5)
  have HB5 := hideD (HB4.out.trans (hb5.mono HB4.out.size))
  have HI5 := hideD (HI4.out.below hb5 HI4.out.lt)
  have HO5 := hideD ho5
  have z5 := hb5.size
  clear hb5 ho5
  have hkL : k < L.length := by rw [← HN.out]; exact hk
  have ci : w5.cell? ⟨g, k, none⟩ = some (.string L[k]) := HI5.out.cell hkL
  have HSK := hideD (HLE.out L[k] (List.getElem_mem hkL))
  generalize L[k] = ent at ci HSK
  clear hkL
  go_wp2_with fail
  refine (Sh.leaf_spec ent w5 (by have := HSK.out; unfold maxLen; omega)).mono ?_
  rintro e w6 ⟨rfl, hb6⟩
  generalize Sh.leafR ent = leaf
  have HS6 := hideD (HS5.out.below hb6)
  have HB6 := hideD (HB5.out.trans (hb6.mono HB5.out.size))
  have HI6 := hideD (HI5.out.below hb6 HI5.out.lt)
  have HO6 := hideD (HO5.out.below hb6)
  have z6 := hb6.size
  clear hb6 ci
  have HT2 := hideD (treeHash_spec L n (some ⟨g, 0, none⟩) c w6.heap.size w6 HN.out.symm (by omega) (by omega) (HI6.out.strs HI6.out.lt) (Nat.le_refl _))
  generalize treeR L = root at HT2
  go_wp2_with fail
  refine HT2.out.mono ?_
  rintro e w7 ⟨rfl, hb7⟩
  have HS7 := hideD (HS6.out.below hb7)
  have HB7 := hideD (HB6.out.trans (hb7.mono HB6.out.size))
  have HO7 := hideD (HO6.out.below hb7)
  have z7 := hb7.size
  have zB : w.heap.size < w4.heap.size := by omega
  clear hb7
  obtain ⟨xp, cp, rfl, hcp, _⟩ := HO7.out.strs
  obtain ⟨pn, hpn⟩ : ∃ pn, pn = pf.length := ⟨_, rfl⟩
  have HPN := hideD hpn
  rw [← hpn] at HO7 HPL hcp ⊢
  have HPL2 : Hid (pn ≤ 31) := by
    have h1 := HPL.out
    have h2 := HN.out
    show pn ≤ 31
    omega
  have HAT : Hid (∀ W : World, OwnS W w4.heap.size (.slice xp pn cp) pf → Strs W W.heap.size xp pf) := fun W h => by
    obtain ⟨x', c', hv, _, hs⟩ := h.strs
    have : xp = x' := by simp at hv; exact hv.1
    rw [this]
    exact hs
  clear hpn HPL
  have hpn31 := HPL2.out
  go_wp2_with fail
  refine (one_any w.heap.size a len cap 3 _ hl (by omega) HS7.out).mono ?_
  rintro e w8 ⟨bb, rfl, hs8, ho8⟩
  have HS8 := hideD hs8
  have HB8 := hideD (ho8.below HB7.out (Nat.le_refl _))
  have HO8 := hideD (own_aft HO7.out ho8.aft (by omega))
  have z8 : w8.heap.size = w7.heap.size := ho8.2.2.2.1
  clear hs8 ho8
  cases bb
  · have HPT := hideD (HAT.out _ HO8.out)
    go_wp2_with fail
    refine bodyPost_ret (results_tmpI rfl _ _ _) rfl ?_
    exact ⟨leaf, k, n, xp, cp, pf, root, by rw [← HPN.out]; rfl, by omega, HPT.out, by rw [← HPN.out]; omega, by rw [← HPN.out]; exact hcp, HB8.out⟩
  · go_wp2_with fail
    refine (n_any w.heap.size a len cap 4 _ hl (by omega) HS8.out).mono ?_
    rintro e w9 ⟨r, rfl, q0, q1, hs9, ho9⟩
    obtain ⟨k9, rfl⟩ := Int.eq_ofNat_of_zero_le q0
    have HS9 := hideD hs9
    have HB9 := hideD (ho9.below HB8.out (Nat.le_refl _))
    have HO9 := hideD (own_aft HO8.out ho9.aft (by omega))
    have z9' : w9.heap.size = w8.heap.size := ho9.2.2.2.1
    clear hs9 ho9
    have hk9 : k9 = 0 ∨ k9 = 1 ∨ k9 = 2 ∨ k9 = 3 := by omega
    clear q0 q1
    rcases hk9 with rfl | rfl | rfl | rfl
    · go_wp2_with fail
      refine (spoil_any w.heap.size w4.heap.size a len cap _ pf _ hl HS9.out HO9.out HPA.out (by rw [← HPN.out]; omega)).mono ?_
      rintro e w10 ⟨b, off, d, q, rfl, hpt, hq1, hq2, ha10⟩
      have HPT := hideD hpt.strs
      have HB10 := hideD (ha10.below HB9.out (Nat.le_refl _) HB9.out.size)
      clear hpt ha10
      go_wp2_with fail
      refine bodyPost_ret (results_tmpI rfl _ _ _) rfl ?_
      exact ⟨leaf, k, n, some ⟨b, off, none⟩, d, q, root, rfl, by omega, HPT.out, hq1, hq2, HB10.out⟩
    · go_wp2_with fail
      refine (n_any w.heap.size a len cap 3 _ hl (by omega) HS9.out).mono ?_
      rintro e w10 ⟨r, rfl, q0, q1, _, ho10⟩
      have HB10 := hideD (ho10.below HB9.out (Nat.le_refl _))
      have HPT := hideD (HAT.out _ (own_aft HO9.out ho10.aft (by omega)))
      have hr3 : r < 3 := by omega
      clear ho10 q1
      go_wp2_with fail
      refine bodyPost_ret (results_tmpI rfl _ _ _) rfl ?_
      exact ⟨leaf, _, n, xp, cp, pf, root, by rw [← HPN.out]; rfl, by omega, HPT.out, by rw [← HPN.out]; omega, by rw [← HPN.out]; exact hcp, HB10.out⟩
    · go_wp2_with fail
      refine (edge_src w.heap.size a len cap _ hl HS9.out).mono ?_
      rintro e w10 ⟨ev, rfl, e0, e1, hs10, ha10⟩
      have HS10 := hideD (hs10.below ((Below.refl _ _).alloc (Nat.le_refl _) (.cells #[.int .i64 ((n : Int) + 1), .int .i64 ((n : Int) - 1), .int .i64 ev, .int .i64 4611686018427387904] 2)))
      have HB10 := hideD (ha10.below HB9.out (Nat.le_refl _) HB9.out.size)
      have HO10 := hideD (own_alloc (own_aft HO9.out ha10 (by omega)) (.cells #[.int .i64 ((n : Int) + 1), .int .i64 ((n : Int) - 1), .int .i64 ev, .int .i64 4611686018427387904] 2))
      have z10 := HB10.out.size
      have z10' : w9.heap.size ≤ w10.heap.size := ha10.size
      have z9 := HB9.out.size
      clear hs10 ha10
      go_wp2_with fail
      refine (n_any w.heap.size a len cap 4 _ hl (by omega) HS10.out).mono ?_
      rintro e w11 ⟨r, rfl, q0, q1, _, ho11⟩
      obtain ⟨k11, rfl⟩ := Int.eq_ofNat_of_zero_le q0
      have hk11 : k11 < 4 := by omega
      have hbk : w11.heap[w10.heap.size]? = some (.cells #[.int .i64 ((n : Int) + 1), .int .i64 ((n : Int) - 1), .int .i64 ev, .int .i64 4611686018427387904] 2 (0, 0)) := (ho11.2.2.2.2 w10.heap.size (by omega)).trans (heap_alloc_last w10 _)
      obtain ⟨y, hy, hyb⟩ := cells_fourI hbk k11 hk11 (by omega) (by omega) (by omega)
      have HB11 := hideD (ho11.below (HB10.out.alloc z10 _) (Nat.le_refl _))
      have HPT := hideD (HAT.out _ (own_aft HO10.out ho11.aft (by omega)))
      clear ho11 q0 q1 hbk
      go_wp2_with fail
      refine bodyPost_ret (results_tmpI rfl _ _ _) rfl ?_
      exact ⟨leaf, k, y, xp, cp, pf, root, by rw [← HPN.out]; rfl, hyb, HPT.out, by rw [← HPN.out]; omega, by rw [← HPN.out]; exact hcp, HB11.out⟩
    · go_wp2_with fail
      refine (Sh.digest_spec ⟨#[122]⟩ _ (by decide)).mono ?_
      rintro e w10 ⟨rfl, hb10⟩
      generalize Sh.digestV ⟨#[122]⟩ = dg
      have HPT := hideD (HAT.out _ (HO9.out.below hb10))
      have HB10 := hideD (HB9.out.trans (hb10.mono HB9.out.size))
      clear hb10
      go_wp2_with fail
      refine bodyPost_ret (results_tmpI rfl _ _ _) rfl ?_
      exact ⟨dg, k, n, xp, cp, pf, root, by rw [← HPN.out]; rfl, by omega, HPT.out, by rw [← HPN.out]; omega, by rw [← HPN.out]; exact hcp, HB10.out⟩
end Go.Proofs.YtghghkfhcpldhaaDoor.Dr

/- What is drawn for the law on trees: two digests. -/
namespace Go.Proofs.YtghghkfhcpldhaaDoor.Dr
open Go.RowKit

theorem digest_32 (t : ByteArray) (h : t.size ≤ 2) : (Sh.digestV t).size = 32 := by
  unfold Sh.digestV
  split
  · exact Sh.sha_size _
  · omega

set_option maxRecDepth 100000 in
set_option maxHeartbeats 2000000 in
theorem drawNode_any (a : Option Addr) (len cap : Nat) (w : World) (hl : len ≤ 1048576) (hr : Row w w.heap.size a len) :
    Calls Tryd.prog 24 #[.slice a len cap] w fun e w' => ∃ x y, e = .returned (.tuple #[.string x, .string y]) ∧ Below w.heap.size w w' := by
  have HR := hideD hr
  clear hr
  go_enter Tryd.func24, Tryd.ntmps24
  go_wp2_with fail
  refine (source_any a len cap _ hl HR.out).mono ?_
  rintro e w1 ⟨rfl, hs1, hb1, hz⟩
  have HB1 := hideD hb1
  have HS1 := hideD hs1
  have hz1 : w.heap.size < w1.heap.size := by omega
  clear hb1 hs1 hz
  go_wp2_with fail
  refine (bytes_any w.heap.size a len cap 2 _ hl (by omega) HS1.out).mono ?_
  rintro e w2 ⟨l2, hl2, rfl, hs2, ha2⟩
  obtain ⟨t2, hu2, ht2⟩ : ∃ t : ByteArray, t = ⟨l2.toArray⟩ ∧ t.size ≤ 2 := ⟨_, rfl, by
    show l2.toArray.size ≤ 2
    simp
    omega⟩
  rw [← hu2]
  have HS2 := hideD hs2
  have HB2 := hideD (ha2.below HB1.out (Nat.le_refl _) HB1.out.size)
  clear hl2 hu2 hs2 ha2
  go_wp2_with fail
  refine (Sh.digest_spec t2 _ (by unfold maxLen; omega)).mono ?_
  rintro e w3 ⟨rfl, hb3⟩
  have HX := hideD (digest_32 t2 ht2)
  generalize Sh.digestV t2 = x at HX
  have HS3 := hideD (HS2.out.below hb3)
  have HB3 := hideD (HB2.out.trans (hb3.mono HB2.out.size))
  clear hb3
  go_wp2_with fail
  refine (bytes_any w.heap.size a len cap 2 _ hl (by omega) HS3.out).mono ?_
  rintro e w4 ⟨l4, hl4, rfl, hs4, ha4⟩
  obtain ⟨t4, hu4, ht4⟩ : ∃ t : ByteArray, t = ⟨l4.toArray⟩ ∧ t.size ≤ 2 := ⟨_, rfl, by
    show l4.toArray.size ≤ 2
    simp
    omega⟩
  rw [← hu4]
  have HS4 := hideD hs4
  have HB4 := hideD (ha4.below HB3.out (Nat.le_refl _) HB3.out.size)
  clear hl4 hu4 hs4 ha4
  go_wp2_with fail
  refine (Sh.digest_spec t4 _ (by unfold maxLen; omega)).mono ?_
  rintro e w5 ⟨rfl, hb5⟩
  generalize Sh.digestV t4 = y
  have HS5 := hideD (HS4.out.below hb5)
  have HB5 := hideD (HB4.out.trans (hb5.mono HB4.out.size))
  clear hb5
  go_wp2_with fail
  refine (one_any w.heap.size a len cap 6 _ hl (by omega) HS5.out).mono ?_
  rintro e w6 ⟨b, rfl, _, ho6⟩
  have HB6 := hideD (ho6.below HB5.out (Nat.le_refl _))
  clear ho6
  have hx := HX.out
  cases b
  · go_wp2_with fail
    go_ret2
    exact ⟨_, _, rfl, HB6.out⟩
  · go_wp2_with fail
    go_ret2
    exact ⟨_, _, rfl, HB6.out⟩
end Go.Proofs.YtghghkfhcpldhaaDoor.Dr
