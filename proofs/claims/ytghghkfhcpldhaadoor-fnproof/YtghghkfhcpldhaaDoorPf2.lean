/- Texts put together: StrArg, TreeTop, ProofTop, DrawCons. -/
import Derived.Test.YtghghkfhcpldhaaDoorStrBase
import Derived.Test.YtghghkfhcpldhaaDoorPf0
import Derived.Test.YtghghkfhcpldhaaDoorPf1
import Derived.Test.YtghghkfhcpldhaaDoorStrO
import Derived.Test.YtghghkfhcpldhaaDoorDrawSpoil
/- A slice of texts that came in. -/
namespace Go.Proofs.YtghghkfhcpldhaaDoor.St
open Go.RowKit

def IsStrs (w : World) (a : Option Addr) (len cap : Nat) (ss : List ByteArray) : Prop :=
  (a = none ∧ len = 0 ∧ cap = 0 ∧ ss = []) ∨
  ∃ x, a = some x ∧ len ≤ cap ∧ cap ≤ maxLen ∧ ss.length = cap ∧ (∀ i, i < ss.length → w.cell? (x.add i) = some (.string (ss.getD i ByteArray.empty))) ∧ ∀ s ∈ ss, s.size ≤ maxLen

theorem strs_of {w : World} {a : Option Addr} {len cap : Nat} {ss : List ByteArray} (h : IsStrs w a len cap ss) :
    ∃ l : List ByteArray, l.length = len ∧ Strs w w.heap.size a l ∧ len ≤ maxLen ∧ len ≤ cap ∧ ∀ s ∈ l, s.size ≤ maxLen := by
  rcases h with ⟨_, rfl, rfl, _⟩ | ⟨x, rfl, hlc, hm, hz, hc, hw⟩
  · exact ⟨[], rfl, .inl rfl, by decide, Nat.le_refl _, fun s hs => by cases hs⟩
  · refine ⟨ss.take len, by rw [List.length_take]; omega, ?_, by omega, hlc, fun s hs => hw s (List.mem_of_mem_take hs)⟩
    rcases Nat.eq_zero_or_pos len with h0 | h0
    · subst h0
      exact .inl rfl
    · obtain ⟨b, off, spot⟩ := x
      have hc0 := hc 0 (by omega)
      have hspot : spot = none := by simpa [Addr.add] using World.cell?_spot hc0
      subst hspot
      have e : ∀ i, (⟨b, off, none⟩ : Addr).add i = ⟨b, off + i, none⟩ := fun i => by unfold Addr.add; split <;> simp_all
      have hlt := World.block_lt_of_cell? w _ hc0
      rw [e 0] at hlt
      refine .inr ⟨b, off, rfl, hlt, fun j hj => ?_⟩
      rw [List.length_take] at hj
      have hj' : j < ss.length := by omega
      rw [← e j, hc j hj', List.getElem_take, List.getD_eq_getElem?_getD, List.getElem?_eq_getElem hj']
      rfl
end Go.Proofs.YtghghkfhcpldhaaDoor.St

/- What both TreeHash answer, and the law on it. -/
namespace Go.Proofs.YtghghkfhcpldhaaDoor.Tr
open Go.RowKit
open Go.Proofs.YtghghkfhcpldhaaDoor.St
open Go.Proofs.YtghghkfhcpldhaaDoor.Sh (Vars)

theorem below2 {w w1 w2 : World} (h1 : Below w.heap.size w w1) (h2 : Below w1.heap.size w1 w2) : Below w.heap.size w w2 := h1.trans (h2.mono h1.size)
theorem treeR_yes (l : List ByteArray) (h : right l = true) : treeR l = tree l := if_pos h
theorem treeR_no (l : List ByteArray) (h : right l = false) : treeR l = ⟨#[]⟩ := if_neg (by rw [h]; decide)

theorem treeHash_impl (l : List ByteArray) (n : Nat) (a : Option Addr) (cap B : Nat) (w : World) (hln : l.length = n) (hcap : n ≤ cap) (hn : n ≤ 1048576) (hs : Strs w B a l) (hB : B ≤ w.heap.size) (hV : Vars w) :
    Calls Tryd.prog 14 #[.slice a n cap] w fun e w' => e = .returned (.string (treeR l)) ∧ Below w.heap.size w w' := by
  have HR := hideT (right_impl a cap l w B hs (by omega))
  rw [hln] at HR
  have HS := hideT hs
  have HV := hideT hV
  clear hs hV
  cases hr : right l with
  | false =>
    have HT := hideT (treeR_no l hr)
    rw [hr] at HR
    go_enter Tryd.func14, Tryd.ntmps14
    go_wp2_with fail
    refine HR.out.mono ?_
    rintro e w1 ⟨rfl, hw⟩
    subst w1
    go_wp2_with fail
    go_ret
    exact ⟨Nu.ret_strJ HT.out.symm, Below.refl _ _⟩
  | true =>
    have HT := hideT (treeR_yes l hr)
    have HY := hideT ((right_yes l).1 hr)
    rw [hr] at HR
    go_enter Tryd.func14, Tryd.ntmps14
    go_wp2_with fail
    refine HR.out.mono ?_
    rintro e w1 ⟨rfl, hw⟩
    subst w1
    go_wp2_with fail
    refine (tree_impl n n l a cap B _ (Nat.le_refl _) hln hcap (by have := HY.out.1; omega) HY.out.2 HS.out hB HV.out).mono ?_
    rintro e w2 ⟨rfl, hb2⟩
    go_wp2_with fail
    go_ret
    exact ⟨Nu.ret_strJ HT.out.symm, hb2⟩

theorem treeHash_spec (l : List ByteArray) (n : Nat) (a : Option Addr) (cap B : Nat) (w : World) (hln : l.length = n) (hcap : n ≤ cap) (hn : n ≤ 1048576) (hs : Strs w B a l) (hB : B ≤ w.heap.size) :
    Calls Tryd.prog 9 #[.slice a n cap] w fun e w' => e = .returned (.string (treeR l)) ∧ Below w.heap.size w w' := by
  have HR := hideT (right_spec a cap l w B hs (by omega))
  rw [hln] at HR
  have HS := hideT hs
  clear hs
  by_cases h400 : 400 < n
  · have HT := hideT (treeR_no l (right_long l (by omega)))
    go_enter Tryd.func9, Tryd.ntmps9
    go_wp2_with fail
    go_ret
    exact ⟨Nu.ret_strJ HT.out.symm, Below.refl _ _⟩
  · cases hr : right l with
    | false =>
      have HT := hideT (treeR_no l hr)
      rw [hr] at HR
      go_enter Tryd.func9, Tryd.ntmps9
      go_wp2_with fail
      refine HR.out.mono ?_
      rintro e w1 ⟨rfl, hw⟩
      subst w1
      go_wp2_with fail
      go_ret
      exact ⟨Nu.ret_strJ HT.out.symm, Below.refl _ _⟩
    | true =>
      have HT := hideT (treeR_yes l hr)
      have HY := hideT ((right_yes l).1 hr)
      rw [hr] at HR
      go_enter Tryd.func9, Tryd.ntmps9
      go_wp2_with fail
      refine HR.out.mono ?_
      rintro e w1 ⟨rfl, hw⟩
      subst w1
      go_wp2_with fail
      refine (tree_spec n n l a cap B _ (Nat.le_refl _) hln hcap (by have := HY.out.1; omega) HY.out.2 HS.out hB).mono ?_
      rintro e w2 ⟨rfl, hb2⟩
      go_wp2_with fail
      go_ret
      exact ⟨Nu.ret_strJ HT.out.symm, hb2⟩
end Go.Proofs.YtghghkfhcpldhaaDoor.Tr

/- What both ProofOf answer, and the law on it. -/
namespace Go.Proofs.YtghghkfhcpldhaaDoor.Tr
open Go.RowKit
open Go.Proofs.YtghghkfhcpldhaaDoor.St
open Go.Proofs.YtghghkfhcpldhaaDoor.Sh (Vars own_empty)

set_option maxHeartbeats 1000000 in
theorem proofOf_impl (l : List ByteArray) (n : Nat) (i : Int) (a : Option Addr) (cap B : Nat) (w : World) (hln : l.length = n) (hcap : n ≤ cap) (hn : n ≤ 1048576) (hs : Strs w B a l) (hB : B ≤ w.heap.size) (hV : Vars w) :
    Calls Tryd.prog 7 #[.slice a n cap, .int .i64 i] w fun e w' => ∃ v, e = .returned v ∧ OwnS w' w.heap.size v (proofR l i) ∧ Below w.heap.size w w' := by
  have HR := hideT (right_impl a cap l w B hs (by omega))
  rw [hln] at HR
  have HS := hideT hs
  have HV := hideT hV
  clear hs hV
  cases hr : right l with
  | false =>
    have HT := hideT (proofR_no l i (fun h => by rw [hr] at h; cases h.1))
    rw [hr] at HR
    go_enter Tryd.func7, Tryd.ntmps7
    go_wp2_with fail
    refine HR.out.mono ?_
    rintro e w1 ⟨rfl, hw⟩
    subst w1
    go_wp2_with fail
    go_ret
    exact ⟨_, rfl, by rw [HT.out]; exact OwnS.nil _ _, Below.refl _ _⟩
  | true =>
    have HY := hideT ((right_yes l).1 hr)
    rw [hr] at HR
    by_cases h0 : i < 1
    · have HT := hideT (proofR_no l i (fun h => by omega))
      go_enter Tryd.func7, Tryd.ntmps7
      go_wp2_with fail
      refine HR.out.mono ?_
      rintro e w1 ⟨rfl, hw⟩
      subst w1
      go_wp2_with fail
      go_ret
      exact ⟨_, rfl, by rw [HT.out]; exact OwnS.nil _ _, Below.refl _ _⟩
    · by_cases h1 : (n : Int) < i
      · have HT := hideT (proofR_no l i (fun h => by omega))
        go_enter Tryd.func7, Tryd.ntmps7
        go_wp2_with fail
        refine HR.out.mono ?_
        rintro e w1 ⟨rfl, hw⟩
        subst w1
        go_wp2_with fail
        go_ret
        exact ⟨_, rfl, by rw [HT.out]; exact OwnS.nil _ _, Below.refl _ _⟩
      · obtain ⟨k, rfl⟩ : ∃ k : Nat, i = k := ⟨i.toNat, by omega⟩
        have HT := hideT (proofR_yes l k hr (by omega) (by omega))
        go_enter Tryd.func7, Tryd.ntmps7
        go_wp2_with fail
        refine HR.out.mono ?_
        rintro e w1 ⟨rfl, hw⟩
        subst w1
        go_wp2_with fail
        refine (proof_impl n n k true l a cap B _ (Nat.le_refl _) hln (by omega) (by omega) hcap (by have := HY.out.1; omega) HY.out.2 HS.out hB HV.out).mono ?_
        rintro e w2 ⟨v, rfl, ho2, hb2⟩
        have HO2 := hideT ho2
        clear ho2
        go_wp2_with fail
        go_ret
        exact ⟨_, rfl, by rw [HT.out]; exact HO2.out, hb2⟩

set_option maxHeartbeats 1000000 in
theorem proofOf_specN (l : List ByteArray) (n : Nat) (i : Int) (a : Option Addr) (cap B : Nat) (w : World) (hln : l.length = n) (hcap : n ≤ cap) (hn : n ≤ 1048576) (hs : Strs w B a l) (hB : B ≤ w.heap.size) :
    Calls Tryd.prog 8 #[.slice a n cap, .int .i64 i] w fun e w' => ∃ v, e = .returned v ∧ OwnS w' w.heap.size v (proofR l i) ∧ v ≠ .slice none 0 0 ∧ Below w.heap.size w w' := by
  have HR := hideT (right_spec a cap l w B hs (by omega))
  rw [hln] at HR
  have HS := hideT hs
  clear hs
  by_cases h400 : 400 < n
  · have HT := hideT (proofR_no l i (fun h => by have := ((right_yes l).1 h.1).1; omega))
    go_enter Tryd.func8, Tryd.ntmps8
    go_wp2_with fail
    go_ret
    exact ⟨_, rfl, by rw [HT.out]; exact own_empty _ _ _ (Nat.le_refl _), by simp, (Below.refl _ _).alloc (Nat.le_refl _) _⟩
  · cases hr : right l with
    | false =>
      have HT := hideT (proofR_no l i (fun h => by rw [hr] at h; cases h.1))
      rw [hr] at HR
      go_enter Tryd.func8, Tryd.ntmps8
      go_wp2_with fail
      refine HR.out.mono ?_
      rintro e w1 ⟨rfl, hw⟩
      subst w1
      go_wp2_with fail
      go_ret
      exact ⟨_, rfl, by rw [HT.out]; exact own_empty _ _ _ (Nat.le_refl _), by simp, (Below.refl _ _).alloc (Nat.le_refl _) _⟩
    | true =>
      have HY := hideT ((right_yes l).1 hr)
      rw [hr] at HR
      by_cases h0 : i < 1
      · have HT := hideT (proofR_no l i (fun h => by omega))
        go_enter Tryd.func8, Tryd.ntmps8
        go_wp2_with fail
        refine HR.out.mono ?_
        rintro e w1 ⟨rfl, hw⟩
        subst w1
        go_wp2_with fail
        go_ret
        exact ⟨_, rfl, by rw [HT.out]; exact own_empty _ _ _ (Nat.le_refl _), by simp, (Below.refl _ _).alloc (Nat.le_refl _) _⟩
      · by_cases h1 : (n : Int) < i
        · have HT := hideT (proofR_no l i (fun h => by omega))
          go_enter Tryd.func8, Tryd.ntmps8
          go_wp2_with fail
          refine HR.out.mono ?_
          rintro e w1 ⟨rfl, hw⟩
          subst w1
          go_wp2_with fail
          go_ret
          exact ⟨_, rfl, by rw [HT.out]; exact own_empty _ _ _ (Nat.le_refl _), by simp, (Below.refl _ _).alloc (Nat.le_refl _) _⟩
        · obtain ⟨k, rfl⟩ : ∃ k : Nat, i = k := ⟨i.toNat, by omega⟩
          have HT := hideT (proofR_yes l k hr (by omega) (by omega))
          go_enter Tryd.func8, Tryd.ntmps8
          go_wp2_with fail
          refine HR.out.mono ?_
          rintro e w1 ⟨rfl, hw⟩
          subst w1
          go_wp2_with fail
          refine (proof_spec n n k true l a cap B _ (Nat.le_refl _) hln (by omega) (by omega) hcap (by have := HY.out.1; omega) HY.out.2 HS.out hB).mono ?_
          rintro e w2 ⟨v, rfl, ho2, hnn, hb2⟩
          have HO2 := hideT ho2
          have HNN := hideT hnn
          clear ho2 hnn
          go_wp2_with fail
          go_ret
          exact ⟨_, rfl, by rw [HT.out]; exact HO2.out, HNN.out, hb2⟩
theorem proofOf_spec (l : List ByteArray) (n : Nat) (i : Int) (a : Option Addr) (cap B : Nat) (w : World) (hln : l.length = n) (hcap : n ≤ cap) (hn : n ≤ 1048576) (hs : Strs w B a l) (hB : B ≤ w.heap.size) :
    Calls Tryd.prog 8 #[.slice a n cap, .int .i64 i] w fun e w' => ∃ v, e = .returned v ∧ OwnS w' w.heap.size v (proofR l i) ∧ Below w.heap.size w w' :=
  (proofOf_specN l n i a cap B w hln hcap hn hs hB).mono fun _ _ ⟨v, x1, x2, _, x3⟩ => ⟨v, x1, x2, x3⟩
end Go.Proofs.YtghghkfhcpldhaaDoor.Tr

/- What is drawn for the law on proofs: sizes, a list of digests, and two texts. -/
namespace Go.Proofs.YtghghkfhcpldhaaDoor.Dr
open Go.RowKit
open Go.Proofs.YtghghkfhcpldhaaDoor.St (OwnS IsS IsO Strs one_newS one_cellS)
open Go.Proofs.YtghghkfhcpldhaaDoor.Tr (treeR proofR treeHash_spec proofOf_specN)

theorem results_tmp5 {fn : Func} {t u v x y : Tmp} (h : fn.results = #[.tmp t, .tmp u, .tmp v, .tmp x, .tmp y]) (tmps : Array Value) (P : Program) (w : World) :
    (results fn tmps).run P w = .ok (.tuple #[tmps.getD t undef, tmps.getD u undef, tmps.getD v undef, tmps.getD x undef, tmps.getD y undef]) w := by
  simp [results, h]
theorem cells_four {w : World} {g : Nat} {t : TypeId} {x0 x1 x2 x3 : Int} (h : w.heap[g]? = some (.cells #[.int .i64 x0, .int .i64 x1, .int .i64 x2, .int .i64 x3] t (0, 0))) (k : Nat) (hk : k < 4) (h0 : x0 < 9223372036854775808) (h1 : x1 < 9223372036854775808) (h2 : x2 < 9223372036854775808) (h3 : x3 < 9223372036854775808 := by decide) :
    ∃ y : Int, w.cell? ⟨g, k, none⟩ = some (.int .i64 y) ∧ y < 9223372036854775808 := by
  have : k = 0 ∨ k = 1 ∨ k = 2 ∨ k = 3 := by omega
  rcases this with rfl | rfl | rfl | rfl
  · exact ⟨x0, (cell_of_row w g 0 _ t (0, 0) h).trans rfl, h0⟩
  · exact ⟨x1, (cell_of_row w g 1 _ t (0, 0) h).trans rfl, h1⟩
  · exact ⟨x2, (cell_of_row w g 2 _ t (0, 0) h).trans rfl, h2⟩
  · exact ⟨x3, (cell_of_row w g 3 _ t (0, 0) h).trans rfl, h3⟩
theorem proof_all : ∀ (f : Nat) (l : List ByteArray) (m : Nat) (b : Bool), l.length ≤ f → ∀ s ∈ Tr.proof l m b, s.size = 32 := by
  intro f
  induction f with
  | zero =>
    intro l m b hf s hs
    rw [Tr.proof, dif_pos (by omega)] at hs
    split at hs
    · cases hs
    · rw [List.mem_singleton.1 hs]
      exact Tr.tree_size l
  | succ f ih =>
    intro l m b hf s hs
    by_cases h1 : l.length ≤ m ∨ l.length ≤ 1
    · rw [Tr.proof, dif_pos h1] at hs
      split at hs
      · cases hs
      · rw [List.mem_singleton.1 hs]
        exact Tr.tree_size l
    · have h2 := Tr.half_lt l.length (by omega)
      have h3 := Tr.half_pos l.length
      by_cases hi : m ≤ Tr.half l.length
      · rw [Tr.proof_left l m b (by omega) (by omega) hi] at hs
        rcases List.mem_append.1 hs with h | h
        · exact ih _ _ _ (by rw [List.length_take]; omega) s h
        · rw [List.mem_singleton.1 h]
          exact Tr.tree_size _
      · rw [Tr.proof_right l m b (by omega) (by omega) hi] at hs
        rcases List.mem_append.1 hs with h | h
        · exact ih _ _ _ (by rw [List.length_drop]; omega) s h
        · rw [List.mem_singleton.1 h]
          exact Tr.tree_size _

set_option maxRecDepth 100000 in
set_option maxHeartbeats 8000000 in
theorem drawCons_any (a : Option Addr) (len cap : Nat) (w : World) (hl : len ≤ 1048576) (hr : Row w w.heap.size a len) :
    Calls Tryd.prog 11 #[.slice a len cap] w fun e w' => ∃ m n b off d q was root, e = .returned (.tuple #[.int .i64 m, .int .i64 n, .slice (some ⟨b, off, none⟩) (List.length q) d, .string was, .string root]) ∧ n < 9223372036854775808 ∧ Pt w' b off q ∧ q.length ≤ 67 ∧ q.length ≤ d ∧ Below w.heap.size w w' := by
  obtain ⟨i0, hi, hz0, hz1, hz2⟩ := info_parts Tryd.infoT9
  have HR := hideD hr
  clear hr
  go_enter Tryd.func11, Tryd.ntmps11
  go_wp2_with fail
  refine (source_any a len cap _ hl HR.out).mono ?_
  rintro e w1 ⟨rfl, hs1, hb1, hz⟩
  have HB1 := hideD hb1
  clear hb1
  go_wp2_with fail
  refine (some_any w.heap.size a len cap _ hl hs1).mono ?_
  rintro e w2 ⟨v, l, rfl, ho2, hln, hle, hs2, ha2⟩
  have HB2 := hideD (ha2.below HB1.out (Nat.le_refl _) (by omega))
  have HO2 := hideD ho2
  have HS2 := hideD hs2
  have z2 : w1.heap.size ≤ w2.heap.size := ha2.size
  clear ho2 hs2 ha2 hle hs1
  go_wp2_with (at_builtin; refine wpList_append_own _ rfl (.tmp 17) (.tmp 18) 23 rfl w1.heap.size 9 i0 (.string ⟨#[]⟩) 1 16 Tryd.underlying23 hi hz0 hz1 hz2 rfl (by decide) _ _ _ rfl (own_alloc HO2.out _) ⟨w2.heap.size, 0, none⟩ 1 1 [.string ⟨#[101, 110, 100]⟩] rfl rfl (one_newS _ _ _) (one_cellS _) (by unfold maxLen; omega) (by omega) (by simp; omega) ?_)
  intro v3 w3 hown3 hgrow3 _
  have HO3 := hideD (OwnS.snoc hown3)
  have hb3 : Below w1.heap.size w2 w3 := St.app_one (Below.refl _ _) z2 (Nat.le_refl _) HO2.out hgrow3
  have HB3 := hideD (HB2.out.trans (hb3.mono (by omega)))
  have HS3 := hideD (HS2.out.stays fun j hj => hb3.block j (by omega))
  have z3 := hb3.size
  clear hown3 hgrow3 hb3
  obtain ⟨L, hL⟩ : ∃ L : List ByteArray, L = l ++ [⟨#[101, 110, 100]⟩] := ⟨_, rfl⟩
  have hLn : L.length ≤ 31 ∧ 1 ≤ L.length := by rw [hL, List.length_append]; simp; omega
  rw [← hL] at HO3
  clear hL
  obtain ⟨g, c, rfl, hg, hgc, hio⟩ := own_some HO3.out (by omega)
  have HI3 := hideD hio
  clear hio
  obtain ⟨n, hn⟩ : ∃ n, n = L.length := ⟨_, rfl⟩
  have HN := hideD hn
  rw [← hn] at hLn hgc HO3 ⊢
  clear hn
  obtain ⟨hLn1, hLn2⟩ := hLn
  go_wp2_with fail
  refine (n_any w.heap.size a len cap n _ hl (by omega) HS3.out).mono ?_
  rintro e w4 ⟨r, rfl, q0, q1, hs4, ho4⟩
  obtain ⟨k, rfl⟩ := Int.eq_ofNat_of_zero_le q0
  have hk : k < n := by omega
  have HS4 := hideD hs4
  have HB4 := hideD (ho4.below HB3.out (Nat.le_refl _))
  have HI4 := hideD (HI3.out.of_heap (ho4.2.2.2.2 g (by omega)))
  have z4 : w4.heap.size = w3.heap.size := ho4.2.2.2.1
  clear hs4 ho4 q0 q1
  obtain ⟨m, hm⟩ : ∃ m : Nat, m = 1 + k := ⟨_, rfl⟩
  have hmi : (1 : Int) + k = m := by omega
  have hmb : m ≤ 31 := by omega
  have hwm : IntKind.i64.wrap ((1 : Int) + k) = m := by rw [IntKind.wrap_i64]; omega
  have g1 : (m : Int) ≤ c := by omega
  have HST4 := hideD (HI4.out.strs HI4.out.lt)
  have HT1 := hideD (treeHash_spec (L.take m) m (some ⟨g, 0, none⟩) c w4.heap.size w4 (by rw [List.length_take, ← HN.out]; omega) (by omega) (by omega) (Strs.take (off := 0) HI4.out.lt (fun j hj => by rw [Nat.zero_add]; exact HI4.out.cell hj)) (Nat.le_refl _))
  have HM1 := hideD hm
  clear hm hwm
  generalize treeR (L.take m) = was at HT1
  go_wp2_with fail
  refine HT1.out.mono ?_
  rintro e w5 ⟨rfl, hb5⟩
  have HS5 := hideD (HS4.out.below hb5)
  have HB5 := hideD (HB4.out.trans (hb5.mono HB4.out.size))
  have HI5 := hideD (HI4.out.below hb5 HI4.out.lt)
  have z5 := hb5.size
  clear hb5
  have HT2 := hideD (treeHash_spec L n (some ⟨g, 0, none⟩) c w5.heap.size w5 HN.out.symm (by omega) (by omega) (HI5.out.strs HI5.out.lt) (Nat.le_refl _))
  generalize treeR L = root at HT2
  go_wp2_with fail
  refine HT2.out.mono ?_
  rintro e w6 ⟨rfl, hb6⟩
  have HS6 := hideD (HS5.out.below hb6)
  have HB6 := hideD (HB5.out.trans (hb6.mono HB5.out.size))
  have HI6 := hideD (HI5.out.below hb6 HI5.out.lt)
  have z6 := hb6.size
  clear hb6
  have HT3 := hideD (proofOf_specN L n m (some ⟨g, 0, none⟩) c w6.heap.size w6 HN.out.symm (by omega) (by omega) (HI6.out.strs HI6.out.lt) (Nat.le_refl _))
  have HPA : Hid (∀ s ∈ proofR L m, 1 ≤ s.size) := by
    intro s hs
    unfold proofR at hs
    split at hs
    · have := proof_all _ L _ true (Nat.le_refl _) s hs
      omega
    · cases hs
  have HPL := hideD (Tr.proofR_length L m)
  generalize proofR L m = pf at HT3 HPA HPL
  go_wp2_with fail
  refine HT3.out.mono ?_
  rintro e w7 ⟨vp, rfl, ho7, hn7, hb7⟩
  have HS7 := hideD (HS6.out.below hb7)
  have HB7 := hideD (HB6.out.trans (hb7.mono HB6.out.size))
  have HO7 := hideD ho7
  obtain ⟨gp, cp, rfl, hgp, hcp, hip⟩ := own_nnD ho7 hn7
  have HI7 := hideD hip
  have zB : w.heap.size < w6.heap.size := by omega
  clear ho7 hn7 hb7 hip
  obtain ⟨pn, hpn⟩ : ∃ pn, pn = pf.length := ⟨_, rfl⟩
  have HPN := hideD hpn
  rw [← hpn] at HO7 HPL hcp ⊢
  clear hpn
  go_wp2_with fail
  refine (one_any w.heap.size a len cap 3 _ hl (by omega) HS7.out).mono ?_
  rintro e w8 ⟨bb, rfl, hs8, ho8⟩
  have HS8 := hideD hs8
  have HB8 := hideD (ho8.below HB7.out (Nat.le_refl _))
  have HO8 := hideD (own_aft HO7.out ho8.aft (by omega))
  have HI8 := hideD (HI7.out.of_heap (ho8.2.2.2.2 gp (by omega)))
  clear hs8 ho8
  cases bb
  · have HPT := hideD (Pt.of HI8.out)
    go_wp2_with fail
    refine bodyPost_ret (results_tmp5 rfl _ _ _) rfl ?_
    exact ⟨m, n, gp, 0, cp, pf, was, root, by rw [← HPN.out]; rfl, by omega, HPT.out, by rw [← HPN.out]; have := HPL.out; omega, by rw [← HPN.out]; exact hcp, HB8.out⟩
  · go_wp2_with fail
    refine (n_any w.heap.size a len cap 4 _ hl (by omega) HS8.out).mono ?_
    rintro e w9 ⟨r, rfl, q0, q1, hs9, ho9⟩
    obtain ⟨k9, rfl⟩ := Int.eq_ofNat_of_zero_le q0
    have HS9 := hideD hs9
    have HB9 := hideD (ho9.below HB8.out (Nat.le_refl _))
    have HO9 := hideD (own_aft HO8.out ho9.aft (by omega))
    have HI9 := hideD (HI8.out.of_heap (ho9.2.2.2.2 gp (by omega)))
    clear hs9 ho9
    have hk9 : k9 = 0 ∨ k9 = 1 ∨ k9 = 2 ∨ k9 = 3 := by omega
    clear q0 q1
    rcases hk9 with rfl | rfl | rfl | rfl
    · go_wp2_with fail
      refine (spoil_any w.heap.size w6.heap.size a len cap _ pf _ hl HS9.out HO9.out HPA.out (by rw [← HPN.out]; have := HPL.out; omega)).mono ?_
      rintro e w10 ⟨b, off, d, q, rfl, hpt, hq1, hq2, ha10⟩
      have HPT := hideD hpt
      have HB10 := hideD (ha10.below HB9.out (Nat.le_refl _) HB9.out.size)
      clear hpt ha10
      go_wp2_with fail
      refine bodyPost_ret (results_tmp5 rfl _ _ _) rfl ?_
      exact ⟨m, n, b, off, d, q, was, root, rfl, by omega, HPT.out, hq1, hq2, HB10.out⟩
    · go_wp2_with fail
      refine (n_any w.heap.size a len cap 3 _ hl (by omega) HS9.out).mono ?_
      rintro e w10 ⟨r, rfl, q0, q1, _, ho10⟩
      have HB10 := hideD (ho10.below HB9.out (Nat.le_refl _))
      have HPT := hideD (Pt.of (HI9.out.of_heap (ho10.2.2.2.2 gp (by omega))))
      have hr3 : r < 3 := by omega
      clear ho10 q1
      go_wp2_with fail
      refine bodyPost_ret (results_tmp5 rfl _ _ _) rfl ?_
      exact ⟨_, n, gp, 0, cp, pf, was, root, by rw [← HPN.out]; rfl, by omega, HPT.out, by rw [← HPN.out]; have := HPL.out; omega, by rw [← HPN.out]; exact hcp, HB10.out⟩
    · go_wp2_with fail
      refine (edge_src w.heap.size a len cap _ hl HS9.out).mono ?_
      rintro e w10 ⟨ev, rfl, e0, e1, hs10, ha10⟩
      have HS10 := hideD (hs10.below ((Below.refl _ _).alloc (Nat.le_refl _) (.cells #[.int .i64 ((n : Int) + 1), .int .i64 ((n : Int) - 1), .int .i64 ev, .int .i64 4611686018427387904] 2)))
      have HB10 := hideD (ha10.below HB9.out (Nat.le_refl _) HB9.out.size)
      have HI10 := hideD (HI9.out.of_heap (ha10.block gp HI9.out.lt (by omega)))
      have z10 := HB10.out.size
      clear hs10 ha10
      go_wp2_with fail
      refine (n_any w.heap.size a len cap 4 _ hl (by omega) HS10.out).mono ?_
      rintro e w11 ⟨r, rfl, q0, q1, _, ho11⟩
      obtain ⟨k11, rfl⟩ := Int.eq_ofNat_of_zero_le q0
      have hk11 : k11 < 4 := by omega
      have hbk : w11.heap[w10.heap.size]? = some (.cells #[.int .i64 ((n : Int) + 1), .int .i64 ((n : Int) - 1), .int .i64 ev, .int .i64 4611686018427387904] 2 (0, 0)) := (ho11.2.2.2.2 w10.heap.size (by have := HI10.out.lt; omega)).trans (heap_alloc_last w10 _)
      obtain ⟨y, hy, hyb⟩ := cells_four hbk k11 hk11 (by omega) (by omega) (by omega)
      have HB11 := hideD (ho11.below (HB10.out.alloc z10 _) (Nat.le_refl _))
      have HPT := hideD (Pt.of (HI10.out.of_heap ((ho11.2.2.2.2 gp (by omega)).trans (Below.heap_alloc w10 _ gp HI10.out.lt))))
      clear ho11 q0 q1 hbk
      go_wp2_with fail
      refine bodyPost_ret (results_tmp5 rfl _ _ _) rfl ?_
      exact ⟨m, y, gp, 0, cp, pf, was, root, by rw [← HPN.out]; rfl, hyb, HPT.out, by rw [← HPN.out]; have := HPL.out; omega, by rw [← HPN.out]; exact hcp, HB11.out⟩
    · go_wp2_with fail
      refine (Sh.digest_spec ⟨#[122]⟩ _ (by decide)).mono ?_
      rintro e w10 ⟨rfl, hb10⟩
      generalize Sh.digestV ⟨#[122]⟩ = dg
      have HPT := hideD (Pt.of (HI9.out.below hb10 HI9.out.lt))
      have HB10 := hideD (HB9.out.trans (hb10.mono HB9.out.size))
      clear hb10
      go_wp2_with fail
      refine bodyPost_ret (results_tmp5 rfl _ _ _) rfl ?_
      exact ⟨m, n, gp, 0, cp, pf, dg, root, by rw [← HPN.out]; rfl, by omega, HPT.out, by rw [← HPN.out]; have := HPL.out; omega, by rw [← HPN.out]; exact hcp, HB10.out⟩
end Go.Proofs.YtghghkfhcpldhaaDoor.Dr
