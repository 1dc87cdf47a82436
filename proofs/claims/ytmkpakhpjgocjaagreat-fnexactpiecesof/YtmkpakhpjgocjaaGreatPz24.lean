/- Texts put together: PcSpec, PcLaw. -/
import Derived.Test.YtmkpakhpjgocjaaGreatPz22
import Derived.Test.YtmkpakhpjgocjaaGreatPzPkSpec
import Derived.Test.YtmkpakhpjgocjaaGreatBlkSpec
import Derived.Test.YtmkpakhpjgocjaaGreatPz20
/- The walks of the specification's PiecesOf. -/
namespace Go.Proofs.YtmkpakhpjgocjaaGreat.Pk
open Go.RowKit
open Go.Proofs.YtmkpakhpjgocjaaGreat.St (OwnS IsS Strs one_newS one_cellS app_one)
open Go.Proofs.YtmkpakhpjgocjaaGreat.Bk (blocksR blocksR_length fine_any fineB blks cnt cnt_le l06Blocks_any own_noneS)

set_option maxRecDepth 100000 in
set_option maxHeartbeats 1000000 in
theorem l06Pieces_any (s : ByteArray) (k : Nat) (w : World) (hf : fineB s.size (k : Int) = true) :
    Calls Tryz.prog 10 #[.string s, .int .i64 k] w fun e w' => ∃ v, e = .returned v ∧ OwnS w' w.heap.size v (piecesR s (k : Int)) ∧ Below w.heap.size w w' := by
  obtain ⟨i0, hif, hz0, hz1, hz2⟩ := info_parts St.Tryz.infoS9
  have h := of_decide_eq_true hf
  have HR : Hid (blocksR s (k : Int) = blks s k (cnt s.size k)) := if_pos hf
  have HB : Hid (Calls Tryz.prog 16 #[.string s, .int .i64 k] w fun e w' => ∃ v, e = .returned v ∧ OwnS w' w.heap.size v (blocksR s (k : Int)) ∧ Below w.heap.size w w') := by
    rw [HR.out]
    exact l06Blocks_any s k w h.1 (by omega) (by omega) ((cnt_le (by omega)).2 (by omega))
  have HL := blocksR_length s (k : Int)
  have HSZ := hideP (blocks_size s (k : Int))
  have HP : Hid (piecesR s (k : Int) = (blocksR s (k : Int)).map packB) := rfl
  rw [HP.out]
  clear HP HR hf h
  generalize blocksR s (k : Int) = l at HB HL HSZ ⊢
  go_enter Tryz.func10, Tryz.ntmps10
  go_wp2_with fail
  refine HB.out.mono ?_
  rintro e w1 ⟨v1, rfl, ho1, hb1⟩
  obtain ⟨a, cap, hv, _, hi1⟩ := ho1.strs
  obtain ⟨n, hn⟩ : ∃ n, n = l.length := ⟨_, rfl⟩
  rw [← hn] at hv HL
  subst hv
  have HN := hideP hn
  have S1 := hideP hi1
  have B1 := hideP hb1
  have hz1' := hb1.size
  clear hn hi1 hb1 ho1
  go_wp2_with fail
  go_loopw [7, 6] (fun iv tv wr => ∃ j : Nat, iv = .int .i64 j ∧ j ≤ n ∧ OwnS wr w1.heap.size tv ((l.take j).map packB) ∧ Below w1.heap.size w1 wr) (fun iv _ _ => n - (intOf iv).toNat)
  case atStart => exact ⟨0, rfl, Nat.zero_le _, own_noneS _, (Below.refl _ _).alloc (Nat.le_refl _) _⟩
  case round =>
    obtain ⟨j, rfl, hj, ho, hbw⟩ := hrel
    have O := hideP ho
    have BW := hideP hbw
    have hzr := hbw.size
    clear ho hbw
    by_cases hlt : j < n
    · have hjl : j < l.length := by rw [← HN.out]; exact hlt
      obtain ⟨b, off, rfl, hb, hcl⟩ := strs_some (S1.out.below BW.out) (by omega)
      have ci := hcl j hjl
      have hx := HSZ.out l[j] (List.getElem_mem hjl)
      have HNX : Hid ((l.take (j + 1)).map packB = (l.take j).map packB ++ [packB l[j]]) := by
        unfold Hid
        rw [List.take_add_one, List.getElem?_eq_getElem hjl, List.map_append]
        rfl
      have HLL : Hid (((l.take j).map packB).length = j) := by
        unfold Hid
        rw [List.length_map, List.length_take]
        omega
      generalize (l.take j).map packB = q at O HNX HLL
      generalize l[j] = x at ci hx HNX
      have HP := hideP (fun W => pack_l06 x W hx)
      generalize packB x = px at HP HNX
      have hjn : (j : Int) < n := by omega
      clear hcl hjl
      go_wp2_with fail
      refine (HP.out _).mono ?_
      rintro e w3 ⟨rfl, hb3⟩
      have O3 := hideP (O.out.below hb3)
      have B3 := hideP (BW.out.trans (hb3.mono hzr))
      have hz3 := B3.out.size
      clear hb3
      go_wp2_with (at_builtin; refine wpList_append_own _ rfl (.tmp 18) (.tmp 24) 22 rfl w1.heap.size 9 i0 (.string ⟨#[]⟩) 1 16 Tryz.underlying22 hif hz0 hz1 hz2 rfl (by decide) _ _ _ rfl (World.ownsRow.alloc O3.out _) ⟨w3.heap.size, 0, none⟩ 1 1 [.string px] rfl rfl (one_newS w3 _ _) (one_cellS _) (by rw [HLL.out]; unfold maxLen; omega) (by rw [HLL.out]; omega) (by simp; omega) ?_)
      intro v4 w4 hown hgrow _
      have O4 : Hid (OwnS w4 w1.heap.size v4 ((l.take (j + 1)).map packB)) := by
        rw [HNX.out]
        exact OwnS.snoc hown
      have B4 := hideP (app_one B3.out hz3 (Nat.le_refl _) O3.out hgrow)
      clear hown hgrow O3 O
      go_wp2_with fail
      go_roundw
      case rel => exact ⟨j + 1, by go_num, by omega, O4.out, B4.out⟩
      case measure => simp [intOf]; omega
    · obtain rfl : j = n := by omega
      have OE : Hid (OwnS wr w1.heap.size u6 (l.map packB)) := by
        have := O.out
        rw [List.take_of_length_le (by rw [← HN.out]; exact Nat.le_refl _)] at this
        exact this
      go_wp2_with fail
      go_ret
      exact ⟨_, rfl, OE.out.mono hz1', B1.out.trans (BW.out.mono hz1')⟩

set_option maxRecDepth 100000 in
set_option maxHeartbeats 1000000 in
theorem pieces_spec (s : ByteArray) (size : Int) (w : World) (hs : s.size ≤ 1048576) :
    Calls Tryz.prog 4 #[.string s, .int .i64 size] w fun e w' => ∃ v, e = .returned v ∧ OwnS w' w.heap.size v (piecesR s size) ∧ Below w.heap.size w w' := by
  have HFI := hideP (fine_any s size w hs)
  cases hf : fineB s.size size with
  | false =>
    have HR : Hid (piecesR s size = []) := by
      unfold Hid piecesR
      rw [show blocksR s size = [] from if_neg (by rw [hf]; decide)]
      rfl
    rw [hf] at HFI
    go_enter Tryz.func4, Tryz.ntmps4
    go_wp2_with fail
    refine HFI.out.mono ?_
    rintro e w1 ⟨rfl, hw⟩
    subst w1
    go_wp2_with fail
    go_ret
    exact ⟨_, rfl, by rw [HR.out]; exact own_noneS _, (Below.refl _ _).alloc (Nat.le_refl _) _⟩
  | true =>
    have h := of_decide_eq_true hf
    obtain ⟨k, rfl⟩ : ∃ k : Nat, size = k := ⟨size.toNat, by omega⟩
    have HB := hideP (l06Pieces_any s k w hf)
    rw [hf] at HFI
    generalize piecesR s (k : Int) = R at HB ⊢
    clear hf h
    go_enter Tryz.func4, Tryz.ntmps4
    go_wp2_with fail
    refine HFI.out.mono ?_
    rintro e w1 ⟨rfl, hw⟩
    subst w1
    go_wp2_with fail
    refine HB.out.mono ?_
    rintro e w2 ⟨v2, rfl, ho2, hb2⟩
    have O2 := hideP ho2
    have B2 := hideP hb2
    clear ho2 hb2
    go_wp2_with fail
    go_ret
    exact ⟨_, rfl, O2.out, B2.out⟩
end Go.Proofs.YtmkpakhpjgocjaaGreat.Pk

/- The walk of the law FnExactPiecesOf. -/
namespace Go.Proofs.YtmkpakhpjgocjaaGreat.fnExactPiecesOf
open Go.RowKit
open Go.Proofs.YtmkpakhpjgocjaaGreat.Pk
open Go.Proofs.YtmkpakhpjgocjaaGreat.St (Aft)

theorem below2 {w w1 w2 : World} (h : Below w.heap.size w w1) (h2 : Below w1.heap.size w1 w2) : Below w.heap.size w w2 := h.trans (h2.mono h.size)

set_option maxHeartbeats 4000000 in
theorem walk (t : ByteArray) (_ : t.size ≤ maxLen) (x : Int) (_ : (Lit.int .i64 x).wf = true) (w : World) :
    Calls Tryz.prog 3 #[.string t, .int .i64 x] w fun e w' => e = .returned (.bool true) ∧ Below w.heap.size w w' := by
  have HI := hideP (fun (W : World) (h : t.size ≤ 1048576) => pieces_impl t x W h)
  have HP := hideP (fun (W : World) (h : t.size ≤ 1048576) => pieces_spec t x W h)
  have HQ : Hid (t.size ≤ 1048576 → (piecesR t x).length ≤ 1048576) := fun hn => Nat.le_trans (piecesR_length t x) (by decide)
  obtain ⟨q, hq⟩ : ∃ q, q = piecesR t x := ⟨_, rfl⟩
  rw [← hq] at HI HP HQ
  clear hq
  by_cases hbig : 1048576 < t.size
  · go_enter Tryz.func3, Tryz.ntmps3
    go_wp2_with fail
    go_ret
    exact ⟨rfl, Below.refl _ _⟩
  · have HN : Hid (t.size ≤ 1048576) := by
      unfold Hid
      omega
    have hbig' : ¬ (1048576 : Int) < (t.size : Int) := by omega
    have HQN : Hid (q.length ≤ 1048576) := HQ.out HN.out
    clear HQ
    go_enter Tryz.func3, Tryz.ntmps3
    go_wp2_with fail
    refine (HP.out w HN.out).mono ?_
    rintro e w2 ⟨v6, rfl, ho6, hb2⟩
    have V6 := hideP ho6.inn
    have B2 := hideP hb2
    clear hb2 ho6
    go_wp2_with fail
    refine (HI.out w2 HN.out).mono ?_
    rintro e w4 ⟨v8, rfl, ho8, hb4⟩
    have V8 := hideP ho8.inn
    have V6c := hideP (V6.out.below hb4 (by omega))
    have B4 := hideP (below2 B2.out hb4)
    have z4 := hb4.size
    clear hb4 ho8 V6
    go_wp2_with fail
    refine (St.eq_in V8.out V6c.out HQN.out).mono ?_
    rintro e w5 ⟨rfl, hb5⟩
    have V8b := hideP (V8.out.below hb5 (Nat.le_refl _))
    have V6d := hideP (V6c.out.below hb5 (by omega))
    have B5 := hideP (below2 B4.out hb5)
    have z5 := hb5.size
    have b2z := B2.out.size
    clear hb5 V8 V6c
    go_wp2_with fail
    refine (St.mark_in V8b.out HQN.out).mono ?_
    rintro e w10 ⟨rfl, hm10, g', hg', ha10⟩
    have M10 := hideP hm10
    have V6i := hideP (V6d.out.aft ha10 (by omega) (by omega))
    have B10 := hideP (Aft.below B5.out ha10 (by omega) B5.out.size)
    have z10 := ha10.2.2.2.1
    clear ha10 hm10 V8b V6d
    generalize hql : q.length = ql at HQN M10 ⊢
    have hpos2 : ¬ (1 + (ql : Int)) < 0 := by omega
    go_wp2_with fail
    refine (St.held_in M10.out HQN.out).mono ?_
    rintro e w11 ⟨rfl, hb11⟩
    have M11 := hideP (M10.out.below hb11 (by omega))
    have V6j := hideP (V6i.out.below hb11 (by omega))
    have B11 := hideP (below2 B10.out hb11)
    have z11 := hb11.size
    clear hb11 M10 V6i
    go_wp2_with fail
    refine (HI.out w11 HN.out).mono ?_
    rintro e w13 ⟨v12, rfl, ho13, hb13⟩
    have V13 := hideP ho13.inn
    have M13 := hideP (M11.out.below hb13 (by omega))
    have V6l := hideP (V6j.out.below hb13 (by omega))
    have B13 := hideP (below2 B11.out hb13)
    have z13 := hb13.size
    clear hb13 ho13 M11 V6j
    go_wp2_with fail
    refine (St.eq_in V13.out V6l.out (by rw [hql]; exact HQN.out)).mono ?_
    rintro e w14 ⟨rfl, hb14⟩
    have M14 := hideP (M13.out.below hb14 (by omega))
    have B14 := hideP (below2 B13.out hb14)
    have z14 := hb14.size
    clear hb14 M13 V6l V13
    go_wp2_with fail
    refine (St.held_in M14.out HQN.out).mono ?_
    rintro e w15 ⟨rfl, hb15⟩
    have B15 := hideP (below2 B14.out hb15)
    clear hb15
    go_wp2_with fail
    go_ret
    exact ⟨rfl, B15.out⟩
end Go.Proofs.YtmkpakhpjgocjaaGreat.fnExactPiecesOf
