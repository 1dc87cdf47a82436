/- What the program's OrderOf answers. -/
import Derived.Test.YtdnmbagdegbnfaaOrdPlain
import Derived.Test.YtdnmbagdegbnfaaUb2
import Derived.Test.YtdnmbagdegbnfaaUbZeroSpec
namespace Go.Proofs.Ytdnmbagdegbnfaa.So
open Go.RowKit Go.Sort Go.Proofs
open Go.Proofs.Ytdnmbagdegbnfaa.In (OwnI one_newI one_cellI)
open Go.Proofs.Ytdnmbagdegbnfaa.In.Try (infoI2)

/-- a row of numbers does not lie in a row of turns -/
theorem own_not {w : World} {base g : Nat} {v : Value} {l : List Int} {cur : Array Value} {t : TypeId} (h : OwnI w base v l) (hg : w.heap[g]? = some (.cells cur t (0, 0))) (ht : t ≠ 2) : ∀ k, v.ownBlock = some k → k ≠ g := by
  intro k hk e
  subst e
  obtain ⟨_, h⟩ := h
  rcases h with ⟨rfl, _⟩ | ⟨g', cap, c, rfl, _, hb, _⟩
  · simp [Value.ownBlock] at hk
  · simp [Value.ownBlock] at hk
    subst hk
    rw [hb] at hg
    simp at hg
    exact ht hg.2.symm

set_option maxRecDepth 100000 in
set_option maxHeartbeats 1000000 in
theorem orderOf_impl (t : ByteArray) (w : World) (hn : t.size ≤ 1048576) :
    Calls Try.prog 52 #[.string t] w fun e w' => ∃ v, e = .returned v ∧ OwnI w' w.heap.size v (ordR t) ∧ Below w.heap.size w w' := by
  obtain ⟨i0, hi0, hz0, hz1, hz2⟩ := info_parts infoI2
  by_cases hlong : 48 < t.size
  · rw [ordR_no hlong]
    go_enter Try.func52, Try.ntmps52
    go_wp2_with fail
    go_ret
    exact ⟨_, rfl, OwnI.nil _ _, Below.refl _ _⟩
  · have hlong' : ¬ (48 : Int) < (t.size : Int) := by omega
    go_enter Try.func52, Try.ntmps52
    go_wp2_with (at_make; refine wpList_make_own _ rfl _ _ 23 rfl w.heap.size 2 i0 (.int .i64 0) 1 Try.underlying23 hi0 hz0 hz1 .i64 .i64 _ t.size rfl rfl (by simp) (by rw [hz2]; omega) (by unfold maxLen; omega) (Nat.le_refl _) ?_; intro w1 hown1 hgrow1)
    have HO1 : Hid (OwnI w1 w.heap.size (.slice (some ⟨w.heap.size, 0, none⟩) 0 t.size) []) := hown1
    have HB1 := hideO ((Below.refl w.heap.size w).grown hgrow1 (Nat.le_refl _) (by simp))
    have z1 := hgrow1.size
    clear hown1 hgrow1
    refine (sorted_T t hn w1).mono ?_
    rintro e w2 ⟨g, cap, d, rfl, hg1, hg2, hH, hds, hp, hr, ⟨cur, hty⟩, hb2⟩
    have HH := hideO hH
    have HTY := hideO hty
    have HO2 := hideO (HO1.out.below hb2)
    have HB2 := hideO (HB1.out.trans (hb2.mono z1))
    have HE := hideO (ordR_yes (by omega) (ord_seg hp hr))
    have z2 := hb2.size
    have HDS := hideO hds
    clear hH hty hp hr hb2 hds
    go_wp2_with fail
    go_loopw [15, 3] (fun i u wr => ∃ k : Nat, i = .int .i64 k ∧ k ≤ t.size ∧ OwnI wr w.heap.size u (ints (seg (dF d) 0 k)) ∧ wr.heap[g]? = w2.heap[g]? ∧ Below w.heap.size w wr) (fun i _ _ => t.size - (intOf i).toNat)
    case atStart => exact ⟨0, rfl, Nat.zero_le _, HO2.out, rfl, HB2.out⟩
    case round =>
      obtain ⟨k, rfl, hk, hown, hbg, hbel⟩ := hrel
      have G1 := hideO hown
      have GB := hideO hbel
      have HBG := hideO hbg
      have hsz := hbel.size
      obtain ⟨a', cap', rfl, _, _⟩ := hown.ints
      rw [ints_len, seg_len, Nat.sub_zero] at G1 ⊢
      clear hown hbel
      by_cases hlt : k < t.size
      · obtain ⟨x0c, _, x1c, _⟩ := cells_T (holds_block HH.out hbg) (i := k) (by rw [HDS.out]; exact hlt)
        have hkz : (k : Int) < (t.size : Int) := by omega
        have HN : Hid (ints (seg (dF d) 0 (k + 1)) = ints (seg (dF d) 0 k) ++ [((d[k]! : Nat) : Int)]) := by
          unfold Hid
          rw [seg_snoc, ints_snoc]
          rfl
        have HL : Hid ((ints (seg (dF d) 0 k)).length = k) := by
          unfold Hid
          rw [ints_len, seg_len]
          omega
        obtain ⟨x, hx⟩ : ∃ x, x = d[k]! := ⟨_, rfl⟩
        rw [← hx] at x0c x1c HN
        generalize turnV t x = tx at x1c
        obtain ⟨L, hL⟩ : ∃ L, L = ints (seg (dF d) 0 k) := ⟨_, rfl⟩
        rw [← hL] at HN HL G1
        have hgl : g < wr.heap.size := by
          have : w2.heap[g]? = some (.cells cur 92 (0, 0)) := HTY.out
          rw [← hbg] at this
          exact (Array.getElem?_eq_some_iff.1 this).1
        clear hx hL hbg
        go_wp2_with (at_builtin; refine wpList_append_own _ rfl (.tmp 19) (.tmp 22) 23 rfl w.heap.size 2 i0 (.int .i64 0) 1 8 Try.underlying23 hi0 hz0 hz1 hz2 rfl (by decide) _ k (L.map (Value.int .i64)) rfl ?own ⟨wr.heap.size + 1, 0, none⟩ 1 1 [.int .i64 (x : Nat)] rfl rfl ?new (one_cellI _) (by unfold maxLen; omega) (by omega) (by simp; omega) ?_)
        case own =>
          have := Ze.OwnI.alloc (Ze.OwnI.alloc G1.out (.cells #[.int .i64 (x : Nat), .string tx] 92)) (.cells #[.int .i64 (x : Nat)] 2)
          unfold OwnI at this
          rw [HL.out] at this
          exact this
        case new =>
          have := one_newI (wr.alloc (.cells #[.int .i64 (x : Nat), .string tx] 92)) (x : Nat) 2
          rw [World.size_alloc] at this
          exact this
        intro v' w5 hown' hgrow _
        have N5 : Hid (OwnI w5 w.heap.size v' (L ++ [(x : Int)])) := by
          apply In.OwnI.snoc
          rw [HL.out]
          exact hown'
        have hty : wr.heap[g]? = some (.cells cur 92 (0, 0)) := HBG.out.trans HTY.out
        have HG5 : Hid (w5.heap[g]? = w2.heap[g]?) := by
          unfold Hid
          rw [← HBG.out]
          have h1 := hgrow.block g (by simp; omega) (fun e => own_not G1.out hty (by decide) g e.symm rfl)
          rw [h1, Below.heap_alloc _ _ _ (by simp; omega), Below.heap_alloc _ _ _ hgl]
        have b5 := hideO (In.app_one (GB.out.alloc hsz _) (by simp; omega) (Nat.le_refl _) (Ze.OwnI.alloc G1.out _) hgrow)
        clear hown' hgrow hty
        go_wp2_with fail
        go_roundw
        case rel => exact ⟨k + 1, by go_num, by omega, by rw [HN.out]; exact N5.out, HG5.out, b5.out⟩
        case measure => simp [intOf]; omega
      · obtain rfl : k = t.size := by omega
        clear hbg
        go_wp2_with fail
        go_ret
        exact ⟨_, rfl, by rw [HE.out]; exact G1.out, GB.out⟩
end Go.Proofs.Ytdnmbagdegbnfaa.So
