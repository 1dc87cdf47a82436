/- Texts put together: PcSpec, LwTexts, BlLaw, BlWalk. -/
import Derived.Test.YthbpenanelbbcaaGreatDoorBz48
import Derived.Test.YthbpenanelbbcaaGreatDoorBz45
import Derived.Test.YthbpenanelbbcaaGreatDoorBz42
import Derived.Test.YthbpenanelbbcaaGreatDoorBz7
import Derived.BigRegion
import Derived.BigQuiet
import Derived.Deep.QuietTactic
import Derived.Test.YthbpenanelbbcaaGreatDoorBz47
import Derived.Test.YthbpenanelbbcaaGreatDoorBz38
import Derived.Deep.RegionHeld3
import Derived.Deep.CutRange
/- The walks of the specification's PiecesOf. -/
namespace Go.Proofs.YthbpenanelbbcaaGreatDoor.Pk
open Go.RowKit
open Go.Proofs.YthbpenanelbbcaaGreatDoor.St (OwnS IsS Strs one_newS one_cellS app_one)
open Go.Proofs.YthbpenanelbbcaaGreatDoor.Bk (blocksR blocksR_length fine_any fineB blks cnt cnt_le l06Blocks_any own_noneS)
set_option maxRecDepth 100000 in
set_option maxHeartbeats 1000000 in
theorem l06Pieces_any (s : ByteArray) (k : Nat) (w : World) (hf : fineB s.size (k : Int) = true) :
  Calls Tryz.prog 36 #[.string s, .int .i64 k] w fun e w' => ∃ v, e = .returned v ∧ OwnS w' w.heap.size v (piecesR s (k : Int)) ∧ Below w.heap.size w w' := by
 obtain ⟨i0, hif, hz0, hz1, hz2⟩ := info_parts St.Tryz.infoS9
 have h := of_decide_eq_true hf
 have HR : Hid (blocksR s (k : Int) = blks s k (cnt s.size k)) := if_pos hf
 have HB : Hid (Calls Tryz.prog 35 #[.string s, .int .i64 k] w fun e w' => ∃ v, e = .returned v ∧ OwnS w' w.heap.size v (blocksR s (k : Int)) ∧ Below w.heap.size w w') := by
  rw [HR.out]
  exact l06Blocks_any s k w h.1 (by omega) (by omega) ((cnt_le (by omega)).2 (by omega))
 have HL := blocksR_length s (k : Int)
 have HSZ := hideP (blocks_size s (k : Int))
 have HP : Hid (piecesR s (k : Int) = (blocksR s (k : Int)).map packB) := rfl
 rw [HP.out]
 clear HP HR hf h
 generalize blocksR s (k : Int) = l at HB HL HSZ ⊢
 go_enter Tryz.func36, Tryz.ntmps36
 go_wp2_with fail
 refine HB.out.mono ?_
 rintro e w1 ⟨v1, rfl, ho1, hb1⟩
 obtain ⟨a, cap, hv, _, hi1⟩ := ho1.strs
 obtain ⟨n, hn⟩ : ∃ n, n = l.length := ⟨_, rfl⟩
 rw [← hn] at hv HL
 subst hv
 have HN := hideP hn
 have S1 := hideP hi1
 have B1 := hideP hb1
 have hz1' := hb1.size
 clear hn hi1 hb1 ho1
 go_wp2_with fail
 go_loopw [7, 6] (fun iv tv wr => ∃ j : Nat, iv = .int .i64 j ∧ j ≤ n ∧ OwnS wr w1.heap.size tv ((l.take j).map packB) ∧ Below w1.heap.size w1 wr) (fun iv _ _ => n - (intOf iv).toNat)
 case atStart => exact ⟨0, rfl, Nat.zero_le _, own_noneS _, (Below.refl _ _).alloc (Nat.le_refl _) _⟩
 case round =>
  obtain ⟨j, rfl, hj, ho, hbw⟩ := hrel
  have O := hideP ho
  have BW := hideP hbw
  have hzr := hbw.size
  clear ho hbw
  by_cases hlt : j < n
  ·have hjl : j < l.length := by rw [← HN.out]; exact hlt
   obtain ⟨b, off, rfl, hb, hcl⟩ := strs_some (S1.out.below BW.out) (by omega)
   have ci := hcl j hjl
   have hx := HSZ.out l[j] (List.getElem_mem hjl)
   have HNX : Hid ((l.take (j + 1)).map packB = (l.take j).map packB ++ [packB l[j]]) := by
    unfold Hid
    rw [List.take_add_one, List.getElem?_eq_getElem hjl, List.map_append]
    rfl
   have HLL : Hid (((l.take j).map packB).length = j) := by
    unfold Hid
    rw [List.length_map, List.length_take]
    omega
   generalize (l.take j).map packB = q at O HNX HLL
   generalize l[j] = x at ci hx HNX
   have HP := hideP (fun W => pack_l06 x W hx)
   generalize packB x = px at HP HNX
   have hjn : (j : Int) < n := by omega
   clear hcl hjl
   go_wp2_with fail
   refine (HP.out _).mono ?_
   rintro e w3 ⟨rfl, hb3⟩
   have O3 := hideP (O.out.below hb3)
   have B3 := hideP (BW.out.trans (hb3.mono hzr))
   have hz3 := B3.out.size
   clear hb3
   go_wp2_with (at_builtin; refine wpList_append_own _ rfl (.tmp 18) (.tmp 24) 30 rfl w1.heap.size 9 i0 (.string ⟨#[]⟩) 1 16 Tryz.underlying30 hif hz0 hz1 hz2 rfl (by decide) _ _ _ rfl (World.ownsRow.alloc O3.out _) ⟨w3.heap.size, 0, none⟩ 1 1 [.string px] rfl rfl (one_newS w3 _ _) (one_cellS _) (by rw [HLL.out]; unfold maxLen; omega) (by rw [HLL.out]; omega) (by simp; omega) ?_)
   intro v4 w4 hown hgrow _
   have O4 : Hid (OwnS w4 w1.heap.size v4 ((l.take (j + 1)).map packB)) := by
    rw [HNX.out]
    exact OwnS.snoc hown
   have B4 := hideP (app_one B3.out hz3 (Nat.le_refl _) O3.out hgrow)
   clear hown hgrow O3 O
   go_wp2_with fail
   go_roundw
   case rel => exact ⟨j + 1, by go_num, by omega, O4.out, B4.out⟩
   case measure => simp [intOf]; omega
  ·obtain rfl : j = n := by omega
   have OE : Hid (OwnS wr w1.heap.size u6 (l.map packB)) := by
    have := O.out
    rw [List.take_of_length_le (by rw [← HN.out]; exact Nat.le_refl _)] at this
    exact this
   go_wp2_with fail
   go_ret
   exact ⟨_, rfl, OE.out.mono hz1', B1.out.trans (BW.out.mono hz1')⟩
set_option maxRecDepth 100000 in
set_option maxHeartbeats 1000000 in
theorem pieces_spec (s : ByteArray) (size : Int) (w : World) (hs : s.size ≤ 1048576) :
  Calls Tryz.prog 16 #[.string s, .int .i64 size] w fun e w' => ∃ v, e = .returned v ∧ OwnS w' w.heap.size v (piecesR s size) ∧ Below w.heap.size w w' := by
 have HFI := hideP (fine_any s size w hs)
 cases hf : fineB s.size size with
 | false =>
  have HR : Hid (piecesR s size = []) := by
   unfold Hid piecesR
   rw [show blocksR s size = [] from if_neg (by rw [hf]; decide)]
   rfl
  rw [hf] at HFI
  go_enter Tryz.func16, Tryz.ntmps16
  go_wp2_with fail
  refine HFI.out.mono ?_
  rintro e w1 ⟨rfl, hw⟩
  subst w1
  go_wp2_with fail
  go_ret
  exact ⟨_, rfl, by rw [HR.out]; exact own_noneS _, (Below.refl _ _).alloc (Nat.le_refl _) _⟩
 | true =>
  have h := of_decide_eq_true hf
  obtain ⟨k, rfl⟩ : ∃ k : Nat, size = k := ⟨size.toNat, by omega⟩
  have HB := hideP (l06Pieces_any s k w hf)
  rw [hf] at HFI
  generalize piecesR s (k : Int) = R at HB ⊢
  clear hf h
  go_enter Tryz.func16, Tryz.ntmps16
  go_wp2_with fail
  refine HFI.out.mono ?_
  rintro e w1 ⟨rfl, hw⟩
  subst w1
  go_wp2_with fail
  refine HB.out.mono ?_
  rintro e w2 ⟨v2, rfl, ho2, hb2⟩
  have O2 := hideP ho2
  have B2 := hideP hb2
  clear ho2 hb2
  go_wp2_with fail
  go_ret
  exact ⟨_, rfl, O2.out, B2.out⟩
end Go.Proofs.YthbpenanelbbcaaGreatDoor.Pk


/- The laws' lwTexts: two rows of the same texts are alike. -/
namespace Go.Proofs.YthbpenanelbbcaaGreatDoor.St
open Go.RowKit
set_option maxRecDepth 100000 in
set_option maxHeartbeats 1000000 in
theorem texts_any (a b : Option Addr) (cap cap' : Nat) (l : List ByteArray) (w : World) (B : Nat) (ha : Strs w B a l) (hb : Strs w B b l) (hn : l.length ≤ 1048576) :
  Calls Tryz.prog 13 #[.slice a l.length cap, .slice b l.length cap'] w fun e w' => e = .returned (.bool true) ∧ Below w.heap.size w w' := by
 have HA := hideT ha
 have HB := hideT hb
 clear ha hb
 obtain ⟨n, hln⟩ : ∃ n, n = l.length := ⟨_, rfl⟩
 have HLN := hideT hln
 rw [← hln] at hn ⊢
 clear hln
 go_enter Tryz.func13, Tryz.ntmps13
 go_wp2_with fail
 go_loopw [5] (fun i wr => ∃ k : Nat, i = .int .i64 k ∧ k ≤ n ∧ (∀ p : Addr, wr.cell? p = w.cell? p) ∧ Below w.heap.size w wr) (fun i _ => n - (intOf i).toNat)
 case atStart => exact ⟨0, rfl, by omega, fun _ => rfl, Below.refl _ _⟩
 case round =>
  obtain ⟨k, rfl, hk, hcell, hbel⟩ := hrel
  have HC := hideT hcell
  have GB := hideT hbel
  by_cases hlt : k < n
  ·have hkl : k < l.length := by rw [← HLN.out]; exact hlt
   obtain ⟨b1, off1, rfl, _, hc1⟩ := HA.out.some (by omega)
   obtain ⟨b2, off2, rfl, _, hc2⟩ := HB.out.some (by omega)
   have c1 := (hcell _).trans (hc1 k hkl)
   have c2 := (hcell _).trans (hc2 k hkl)
   obtain ⟨s, hs⟩ : ∃ s, s = l[k] := ⟨_, rfl⟩
   rw [← hs] at c1 c2
   clear hc1 hc2 hcell hbel hs
   go_wp2_with fail
   go_region
   all_goals (try go_wp2_with fail)
   all_goals go_roundw
   case rel => exact ⟨k + 1, by go_num, by omega, fun p => HC.out p, GB.out.drew⟩
   case measure => simp [intOf]; omega
  ·clear hcell hbel
   go_wp2_with fail
   go_ret
   exact ⟨rfl, GB.out⟩
end Go.Proofs.YthbpenanelbbcaaGreatDoor.St


/- The walk of the law FnBlock out of the contracts. -/
namespace Go.Proofs.YthbpenanelbbcaaGreatDoor.fnBlock
open Go.RowKit
open Go.Proofs.YthbpenanelbbcaaGreatDoor.Dr (Row row_of IsRow drawBkPack_any drawUnpack_any drawBlocks_any drawPieces_any)
open Go.Proofs.YthbpenanelbbcaaGreatDoor.Pk (strs_some packB piecesR piecesR_length pieces_impl pieces_spec pack_impl pack_spec cat hideP)
open Go.Proofs.YthbpenanelbbcaaGreatDoor.Bk (blocksR blocksR_length blocks_impl blocks_spec fineB)
open Go.Proofs.YthbpenanelbbcaaGreatDoor.Up (Glob glob_keep ansU ansU_form unpack_all unpack_spec ansU_pack pack_ansU packB_none packB_size cat_blocks)
open Go.Proofs.YthbpenanelbbcaaGreatDoor.Se (outV)
open Go.Proofs.YthbpenanelbbcaaGreatDoor.St (Strs OwnS texts_any)
theorem row_keep {w w' : World} {a : Option Addr} {n : Nat} (h : Row w w.heap.size a n) (hb : Below w.heap.size w w') : Row w' w'.heap.size a n := (Dr.Row.below h hb).mono hb.size
theorem low_keep {w0 w w' : World} (h : Below w0.heap.size w0 w) (hb : Below w.heap.size w w') : Below w0.heap.size w0 w' := h.trans (hb.mono h.size)
theorem blk_keep {w w' : World} {g : Nat} {x : Obj} (h : w.heap[g]? = some x) (hb : Below w.heap.size w w') : w'.heap[g]? = some x := (hb.block g (Array.getElem?_eq_some_iff.1 h).1).trans h
theorem own_keep {w w' : World} {b : Nat} {v : Value} {l : List ByteArray} (h : OwnS w b v l) (hb : Below w.heap.size w w') : OwnS w' b v l := h.below hb
theorem three {W : World} {g : Nat} {x y z : Value} {t : TypeId} (h : W.heap[g]? = some (.cells #[x, y, z] t (0, 0))) : W.cell? ⟨g, 0, none⟩ = some x ∧ W.cell? ⟨g, 1, none⟩ = some y ∧ W.cell? ⟨g, 2, none⟩ = some z :=
 ⟨cell_of_row W g 0 _ _ _ h, cell_of_row W g 1 _ _ _ h, cell_of_row W g 2 _ _ _ h⟩
theorem same_owns {l : List ByteArray} {b b' : Nat} {u v : Value} {W : World} (h1 : OwnS W b u l) (h2 : OwnS W b' v l) (hl : l.length ≤ 1048576) :
  Calls Tryz.prog 13 #[u, v] W fun e w' => e = .returned (.bool true) ∧ Below W.heap.size W w' := by
 obtain ⟨x, cx, rfl, _, hx⟩ := h1.strs
 obtain ⟨y, cy, rfl, _, hy⟩ := h2.strs
 exact texts_any x y cx cy l W W.heap.size hx hy hl
theorem ne_empty {t : ByteArray} (h : 4 ≤ t.size) : ¬ t.toList = [] := fun e => by
 rw [Lib.toList_data] at e
 have hz : t.data.size = 0 := by rw [← Array.length_toList, e]; rfl
 have h2 : t.size = t.data.size := rfl
 omega
theorem add_cat {l : List ByteArray} {j : Nat} (h : j < l.length) : (⟨(cat (l.take j)).toArray⟩ : ByteArray) ++ l[j] = ⟨(cat (l.take (j + 1))).toArray⟩ := by
 rw [Pk.cat_next l j h]
 apply ByteArray.ext
 rw [ByteArray.data_append]
 apply Array.toList_inj.1
 simp
theorem ansU_text {u t : ByteArray} (h : ansU u = outV t 0 0) : t.size ≤ 1048576 := by
 rcases Up.unseal_case u with ⟨s, hu, hse, hs, h4⟩ | ⟨c, hc, hu⟩
 ·rw [Up.ansU_yes hu] at h
  unfold Up.ansT at h
  split at h
  ·rename_i hx
   have hsp := Classical.choose_spec hx
   have e : Classical.choose hx = t := by
    unfold outV at h
    simp at h
    exact h
   rw [e] at hsp
   have := hsp.1
   omega
  ·unfold outV at h
   simp at h
 ·rw [Up.ansU_no hc hu] at h
  unfold outV at h
  simp at h
  exact absurd h.2 hc
set_option maxRecDepth 100000 in
set_option maxHeartbeats 8000000 in
theorem walk_in (w : World) (a0 : Option Addr) (len0 cap0 : Nat) (a1 : Option Addr) (len1 cap1 : Nat) (r0 : Row w w.heap.size a0 len0) (r1 : Row w w.heap.size a1 len1) (hl0 : len0 ≤ 1048576) (hl1 : len1 ≤ 1048576) (ga : Addr) (hG : Glob w (.iface 189 (.pointer (some ga)))) :
  Calls Tryz.prog 3 #[.slice a0 len0 cap0, .slice a1 len1 cap1] w fun e w' => e = .returned (.bool true) ∧ Below w.heap.size w w' := by
 have g0 : (len0 : Int) ≤ 1048576 := by omega
 have g1 : (len1 : Int) ≤ 1048576 := by omega
 have f0 : ¬ (1048576 : Int) < len0 := by omega
 have f1 : ¬ (1048576 : Int) < len1 := by omega
 have d0 : decide ((1048576 : Int) < len0) = false := by simp; omega
 have d1 : decide ((1048576 : Int) < len1) = false := by simp; omega
 have R0 := hideP r0
 have R1 := hideP r1
 have HG := hideP hG
 clear r0 r1 hG
 go_enter Tryz.func3, Tryz.ntmps3
 go_wp2_with fail
 refine (drawBkPack_any a0 len0 cap0 _ hl0 R0.out).mono ?_
 rintro e w1 ⟨b, hbs, rfl, hb⟩
 have B1 := hideP hb
 clear hb
 go_wp2_with fail
 refine (pack_impl b _ (by omega)).mono ?_
 rintro e w2 ⟨rfl, hb⟩
 have B2 := hideP (low_keep B1.out hb)
 clear hb B1
 have HPB : Hid ((b.size ≤ 48 ∧ ansU (packB b) = outV b 0 0 ∧ (packB b).size ≤ b.size + 5 ∧ 4 ≤ (packB b).size) ∨ packB b = ⟨#[]⟩) := by
  by_cases h : b.size ≤ 48
  ·exact .inl ⟨h, ansU_pack w h, packB_size h⟩
  ·exact .inr (packB_none h)
 have HPK := hideP (fun W => pack_spec b W (by omega))
 obtain ⟨t, htb⟩ : ∃ t, t = packB b := ⟨_, rfl⟩
 rw [← htb] at HPB HPK ⊢
 have hts : t.size ≤ 1048576 := by rw [htb]; have := Dr.pack_small b; omega
 clear htb
 go_wp2_with fail
 refine (drawUnpack_any a1 len1 cap1 _ hl1 (row_keep R1.out B2.out)).mono ?_
 rintro e w3 ⟨u, hus, rfl, hb⟩
 have B3 := hideP (low_keep B2.out hb)
 clear hb B2
 obtain ⟨xt, xc, hx⟩ := ansU_form u
 have HUI := hideP (fun W hW => unpack_all ga u W hus hW)
 have HUS := hideP (fun W => unpack_spec u W hus)
 rw [hx] at HUI HUS
 have HUX : Hid (xc = 0 → packB xt = u) := fun h => pack_ansU (by rw [hx, h]; rfl)
 have HUXS : Hid (xc = 0 → xt.size ≤ 1048576) := fun h => by
  exact ansU_text (by rw [hx, h]; rfl)
 clear hx
 go_wp2_with fail
 refine (HUI.out _ (glob_keep HG.out B3.out)).mono ?_
 rintro e w4 ⟨rfl, hb⟩
 have B4 := hideP (low_keep B3.out hb)
 clear hb B3 HUI
 have X4 : Hid ((w4.alloc (.cells #[.string xt, .int .i64 0, .int .i64 xc] 26)).heap[w4.heap.size]? = some (.cells #[.string xt, .int .i64 0, .int .i64 xc] 26 (0, 0))) := heap_alloc_new w4 _
 have B5 : Hid (Below w.heap.size w (w4.alloc (.cells #[.string xt, .int .i64 0, .int .i64 xc] 26))) := B4.out.alloc B4.out.size _
 go_wp2_with fail
 generalize hww : w4.alloc (.cells #[.string xt, .int .i64 0, .int .i64 xc] 26) = w5 at X4 B5 ⊢
 generalize w4.heap.size = gx at X4 ⊢
 clear hww B4
 refine (drawBlocks_any a0 len0 cap0 _ hl0 (row_keep R0.out B5.out)).mono ?_
 rintro e w6 ⟨f, sz, hfs, hs0, hs1, rfl, hb⟩
 have X6 := hideP (blk_keep X4.out hb)
 have B6 := hideP (low_keep B5.out hb)
 clear hb X4 B5
 have HBL := hideP (blocksR_length f sz)
 have HBS := hideP (fun W => blocks_spec f sz W (by omega))
 have HCB : Hid (blocksR f sz = [] ∨ cat (blocksR f sz) = f.data.toList) := by
  cases hf : fineB f.size sz with
  | true => exact .inr (cat_blocks f sz hf)
  | false => exact .inl (if_neg (by rw [hf]; decide))
 go_wp2_with fail
 refine (blocks_impl f sz _ (by omega)).mono ?_
 rintro e w7 ⟨lv, rfl, ho, hb⟩
 have X7 := hideP (blk_keep X6.out hb)
 have B7 := hideP (low_keep B6.out hb)
 have O7 := hideP ho
 clear hb ho X6 B6
 generalize blocksR f sz = l at HBL HBS HCB O7
 go_wp2_with fail
 refine (drawPieces_any a1 len1 cap1 _ hl1 (row_keep R1.out B7.out)).mono ?_
 rintro e w8 ⟨f2, n2, hf2, _, _, rfl, hb⟩
 have X8 := hideP (blk_keep X7.out hb)
 have B8 := hideP (low_keep B7.out hb)
 have O8 := hideP (own_keep O7.out hb)
 clear hb X7 B7 O7
 have HPL := hideP (piecesR_length f2 n2)
 have HPI := hideP (fun W => pieces_impl f2 n2 W (by omega))
 have HPS := hideP (fun W => pieces_spec f2 n2 W (by omega))
 generalize piecesR f2 n2 = pl at HPL HPI HPS
 have CX : Hid (∀ W, Below w8.heap.size w8 W → W.cell? ⟨gx, 0, none⟩ = some (.string xt) ∧ W.cell? ⟨gx, 1, none⟩ = some (.int .i64 0) ∧ W.cell? ⟨gx, 2, none⟩ = some (.int .i64 xc)) := fun W h => three (blk_keep X8.out h)
 have L1 : Hid (∀ (v : Value) (W : World) (bb : Nat), Below w8.heap.size w8 W → OwnS W bb v l → Calls Tryz.prog 13 #[lv, v] W fun e w' => e = .returned (.bool true) ∧ Below W.heap.size W w') := fun v W bb hW hv => same_owns (own_keep O8.out hW) hv (by have := HBL.out; omega)
 have L2 : Hid (∀ (u v : Value) (W : World) (bb cc : Nat), OwnS W bb u pl → OwnS W cc v pl → Calls Tryz.prog 13 #[u, v] W fun e w' => e = .returned (.bool true) ∧ Below W.heap.size W w') := fun u v W bb cc hu hv => same_owns hu hv (by have := HPL.out; omega)
 have bxc : (xc != xc) = false := by simp
 go_upto_region 10 with fail
 go_cut [72] from 45 to 72 (fun s72 wx => s72 = .bool false ∧ Below w8.heap.size w8 wx)
 case first =>
  have K0 : Hid (Below w8.heap.size w8 w8.drew) := (Below.refl _ _).drew
  have hS0 := CX.out _ K0.out
  go_region_held3 (fun W => W.cell? ⟨gx, 0, none⟩ = some (.string xt) ∧ W.cell? ⟨gx, 1, none⟩ = some (.int .i64 0) ∧ W.cell? ⟨gx, 2, none⟩ = some (.int .i64 xc)) (assumption) (first | (go_at_call 11; (with_reducible refine (HPK.out _).mono ?_); rintro e v1 ⟨rfl, hb⟩; have K1 := hideP (low_keep K0.out hb); have hS1 := CX.out _ K1.out; clear hb) | (go_at_call 12; (with_reducible refine (HUS.out _).mono ?_); rintro e v2 ⟨rfl, hb⟩; have K2 := hideP (low_keep K1.out hb); have hS2 := CX.out _ K2.out; clear hb) | (go_at_call 14; (with_reducible refine (HBS.out _).mono ?_); rintro e v3 ⟨bv, rfl, ho, hb⟩; have K3 := hideP (low_keep K2.out hb); have hS3 := CX.out _ K3.out; have O3 := hideP ho; clear hb ho) | (go_at_call 13; (with_reducible refine (L1.out _ _ _ K3.out O3.out).mono ?_); rintro e v4 ⟨rfl, hb⟩; have K4 := hideP (low_keep K3.out hb); have hS4 := CX.out _ K4.out; clear hb) | (go_at_call 15; (with_reducible refine (HPI.out _).mono ?_); rintro e v5 ⟨pv, rfl, ho, hb⟩; have K5 := hideP (low_keep K4.out hb); have hS5 := CX.out _ K5.out; have O5 := hideP ho; clear hb ho) | (go_at_call 16; (with_reducible refine (HPS.out _).mono ?_); rintro e v6 ⟨qv, rfl, ho, hb⟩; have K6 := hideP (low_keep K5.out hb); have hS6 := CX.out _ K6.out; have O5b := hideP (own_keep O5.out hb); have O6 := hideP ho; clear hb ho) | (go_at_call 13; (with_reducible refine (L2.out _ _ _ _ _ O5b.out O6.out).mono ?_); rintro e v7 ⟨rfl, hb⟩; have K7 := hideP (low_keep K6.out hb); have hS7 := CX.out _ K7.out; clear hb))
  all_goals (try go_wp2_with fail)
  all_goals (go_meet; exact ⟨rfl, K7.out⟩)
 case rest =>
  obtain ⟨rfl, hbc⟩ := hcut
  have KC := hideP hbc
  clear hbc
  obtain ⟨cx0, cx1, cx2⟩ := CX.out _ KC.out
  have OC := hideP (own_keep O8.out KC.out)
  have BC := hideP (low_keep B8.out KC.out)
  have GC := hideP (glob_keep HG.out BC.out)
  have UIM : Hid (∀ W, Below w.heap.size w W → (b.size ≤ 48 ∧ ansU t = outV b 0 0 ∧ t.size ≤ b.size + 5 ∧ 4 ≤ t.size) → Calls Tryz.prog 7 #[.string t] W fun e w' => e = .returned (.agg #[.string b, .int .i64 0, .int .i64 0]) ∧ Below W.heap.size W w') := fun W hW h => by
   have := unpack_all ga t W hts (glob_keep HG.out hW)
   rw [h.2.1] at this
   exact this
  have PIM : Hid (∀ W, xc = 0 → Calls Tryz.prog 5 #[.string xt] W fun e w' => e = .returned (.string u) ∧ Below W.heap.size W w') := fun W h0 => by
   have := pack_impl xt W (HUXS.out h0)
   rw [HUX.out h0] at this
   exact this
  clear HPK HUS HBS HPI HPS L1 L2 HPL
  go_upto_region 12 with fail
  go_cut [101] from 73 to 100 (fun s101 wx => s101 = .bool false ∧ Below wc.heap.size wc wx)
  case first =>
   have CY : Hid (∀ W, Below wc.heap.size wc W → W.cell? ⟨gx, 0, none⟩ = some (.string xt) ∧ W.cell? ⟨gx, 1, none⟩ = some (.int .i64 0) ∧ W.cell? ⟨gx, 2, none⟩ = some (.int .i64 xc)) := fun W h => CX.out W (low_keep KC.out h)
   by_cases hxc : xc = 0
   ·subst hxc
    rcases HPB.out with hA | rfl
    ·have q1 := ne_empty hA.2.2.2
     have q2 : ¬ ((b.size : Int) + 5 < t.size) := by have := hA.2.2.1; omega
     have q4 : ((t.size : Int) ≤ b.size + 5) := by have := hA.2.2.1; omega
     have q3 : b.size ≤ 48 := hA.1
     have QD : Hid (decide ((b.size : Int) + 5 < t.size) = false) := decide_eq_false q2
     go_wp2_with fail
     refine (UIM.out _ BC.out hA).mono ?_
     rintro e w70 ⟨rfl, hb70⟩
     have K70 := hideP hb70
     obtain ⟨dy0, dy1, dy2⟩ := CY.out _ K70.out
     clear hb70 cx0 cx1 cx2 hA
     go_wp2_with fail
     refine (PIM.out _ (by trivial)).mono ?_
     rintro e w71 ⟨rfl, hb71⟩
     have K71 := hideP (low_keep K70.out hb71)
     clear hb71
     go_wp2_with fail
     go_meet
     exact ⟨by rw [QD.out, Bool.and_false], K71.out⟩
    ·go_wp2_with fail
     refine (PIM.out _ (by trivial)).mono ?_
     rintro e w71 ⟨rfl, hb71⟩
     have K71 := hideP hb71
     clear hb71
     go_wp2_with fail
     go_meet
     exact ⟨rfl, K71.out⟩
   ·have hxc' : (xc == 0) = false := by simp; exact hxc
    rcases HPB.out with hA | rfl
    ·have q1 := ne_empty hA.2.2.2
     have q2 : ¬ ((b.size : Int) + 5 < t.size) := by have := hA.2.2.1; omega
     have q4 : ((t.size : Int) ≤ b.size + 5) := by have := hA.2.2.1; omega
     have q3 : b.size ≤ 48 := hA.1
     have QD : Hid (decide ((b.size : Int) + 5 < t.size) = false) := decide_eq_false q2
     go_wp2_with fail
     refine (UIM.out _ BC.out hA).mono ?_
     rintro e w70 ⟨rfl, hb70⟩
     have K70 := hideP hb70
     obtain ⟨dy0, dy1, dy2⟩ := CY.out _ K70.out
     clear hb70 cx0 cx1 cx2 hA
     go_wp2_with fail
     go_meet
     exact ⟨by rw [QD.out, Bool.and_false], K70.out⟩
    ·go_wp2_with fail
     go_meet
     exact ⟨rfl, Below.refl _ _⟩
  case rest =>
   obtain ⟨rfl, hbd⟩ := hcut
   have BD := hideP (low_keep BC.out hbd)
   have OD := hideP (own_keep OC.out hbd)
   clear hbd UIM PIM CX KC BC OC cx0 cx1 cx2 GC
   obtain ⟨al, cap, hv, _, hi1⟩ := OD.out.strs
   obtain ⟨n, hn⟩ : ∃ n, n = l.length := ⟨_, rfl⟩
   rw [← hn] at hv HBL
   subst hv
   have HN := hideP hn
   have S1 := hideP hi1
   clear hn hi1 OD O8
   go_wp2_with fail
   go_loopw [15, 14] (fun iv tv wr => ∃ j : Nat, iv = .int .i64 j ∧ j ≤ n ∧ tv = .string ⟨(cat (l.take j)).toArray⟩ ∧ Below w.heap.size w wr ∧ Strs wr wr.heap.size al l) (fun iv _ _ => n - (intOf iv).toNat)
   case atStart => exact ⟨0, rfl, Nat.zero_le _, rfl, BD.out, S1.out⟩
   case round =>
    obtain ⟨j, rfl, hj, rfl, hbw, hst⟩ := hrel
    have BW := hideP hbw
    have SW := hideP hst
    clear hbw hst
    by_cases hlt : j < n
    ·have hjl : j < l.length := by rw [← HN.out]; exact hlt
     obtain ⟨bb, off, rfl, _, hcl⟩ := strs_some SW.out (by omega)
     have ci := hcl j hjl
     have HNX := hideP (add_cat hjl)
     have hlim : ¬ 9223372036854775807 < (⟨(cat (l.take j)).toArray⟩ : ByteArray).size + l[j].size := by
      have e : (⟨(cat (l.take j)).toArray⟩ : ByteArray).size + l[j].size = (cat (l.take (j + 1))).length := by
       rw [← ByteArray.size_append, add_cat hjl]
       exact List.size_toArray
      have h1 := Pk.cat_take_le l (j + 1)
      have h2 : (cat l).length ≤ 1002 := by
       rcases HCB.out with h | h
       ·rw [h]; exact Nat.zero_le _
       ·rw [h, Array.length_toList]; exact hfs
      omega
     generalize hq : (⟨(cat (l.take j)).toArray⟩ : ByteArray) = q at HNX hlim ⊢
     generalize l[j] = x at ci HNX hlim
     have hjn : (j : Int) < n := by omega
     have hnb : n ≤ 1048576 := by have := HBL.out; omega
     clear hcl hjl hq
     go_wp2_with fail
     go_roundw
     case rel => exact ⟨j + 1, by go_num, by omega, by rw [HNX.out], BW.out, SW.out⟩
     case measure => simp [intOf]; omega
    ·have hjn : ¬ (j : Int) < n := by omega
     have hjeq : j = n := by omega
     subst hjeq
     have HE : Hid (j = 0 ∨ (⟨(cat (l.take j)).toArray⟩ : ByteArray) = f) := by
      unfold Hid
      rw [HN.out, List.take_length]
      rcases HCB.out with h | h
      ·exact .inl (by rw [h]; rfl)
      ·exact .inr (by rw [h])
     generalize hq : (⟨(cat (l.take j)).toArray⟩ : ByteArray) = q at HE ⊢
     clear hq
     rcases HE.out with rfl | rfl
     ·go_wp2_with fail
      go_ret
      exact ⟨rfl, BW.out⟩
     ·by_cases h0 : j = 0
      ·subst h0
       go_wp2_with fail
       go_ret
       exact ⟨rfl, BW.out⟩
      ·have h0' : ¬ (j : Int) = 0 := by omega
       go_wp2_with fail
       go_ret
       exact ⟨rfl, BW.out⟩
end Go.Proofs.YthbpenanelbbcaaGreatDoor.fnBlock


/- The law FnBlock, whatever bytes it draws from. -/
namespace Go.Proofs.YthbpenanelbbcaaGreatDoor.fnBlock
open Go.RowKit
open Go.Proofs.YthbpenanelbbcaaGreatDoor.Dr (row_of IsRow)
set_option maxRecDepth 100000 in
theorem walk (a0 : Option Addr) (len0 cap0 : Nat) (z0 : List Int) {w : World} (w0 : IsRow .u8 w a0 len0 cap0 z0) (a1 : Option Addr) (len1 cap1 : Nat) (z1 : List Int) (w1 : IsRow .u8 w a1 len1 cap1 z1) (ga : Addr) (hG : Up.Glob w (.iface 189 (.pointer (some ga)))) :
  Calls Tryz.prog 3 #[.slice a0 len0 cap0, .slice a1 len1 cap1] w fun e w' => e = .returned (.bool true) ∧ Below w.heap.size w w' := by
 by_cases h0 : len0 ≤ 1048576
 ·by_cases h1 : len1 ≤ 1048576
  ·exact walk_in w a0 len0 cap0 a1 len1 cap1 (row_of w0) (row_of w1) h0 h1 ga hG
  ·clear w0 w1 hG
   have g0 : (len0 : Int) ≤ 1048576 := by omega
   have g1 : (1048576 : Int) < len1 := by omega
   go_enter Tryz.func3, Tryz.ntmps3
   go_wp2
   go_ret
   exact ⟨rfl, Below.refl _ _⟩
 ·clear w0 w1 hG
  have g0 : (1048576 : Int) < len0 := by omega
  go_enter Tryz.func3, Tryz.ntmps3
  go_wp2
  go_ret
  exact ⟨rfl, Below.refl _ _⟩
end Go.Proofs.YthbpenanelbbcaaGreatDoor.fnBlock

