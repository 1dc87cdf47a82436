/- The walk of the law FnSort. -/
import Derived.Test.YtmkpakhpjgocjaaFs7
import Derived.Test.YtmkpakhpjgocjaaFs9
import Derived.Test.YtmkpakhpjgocjaaFs18
import Derived.Test.YtmkpakhpjgocjaaFs32
import Derived.Test.YtmkpakhpjgocjaaFs33
import Derived.Test.YtmkpakhpjgocjaaFs34
import Derived.Test.YtmkpakhpjgocjaaFs35
import Derived.Test.YtmkpakhpjgocjaaFs22
import Derived.Test.YtmkpakhpjgocjaaFs31
import Derived.Test.YtmkpakhpjgocjaaFs36
import Derived.Test.YtmkpakhpjgocjaaFs44
import Derived.Test.YtmkpakhpjgocjaaFsUnbSpec2
import Derived.Deep.CutRange
import Derived.Deep.RegionWith
import Derived.BigRegion
import Derived.BigQuiet
import Derived.Deep.RegionHeld3
namespace Go.Proofs.Ytmkpakhpjgocjaa.fnSort
open Go.RowKit
open Go.Proofs.Ytmkpakhpjgocjaa.Dr (Row row_of IsRow drawBwt_any drawUnbwt_any drawFrontOf_any drawFb_any drawZo_any drawZb_any)
open Go.Proofs.Ytmkpakhpjgocjaa.So
open Go.Proofs.Ytmkpakhpjgocjaa.Fr (frontR fbackR frontOf_impl frontOf_spec frontBack_impl frontBack_spec front_back frontR_len)
open Go.Proofs.Ytmkpakhpjgocjaa.Ze (zerosR backR numsR zerosOf_impl zerosOf_spec zerosBack_impl zerosBack_spec zeros_back zerosR_no zerosR_len backR_len)
open Go.Proofs.Ytmkpakhpjgocjaa.In (Ints OwnI)

theorem hideS {p : Prop} (h : p) : Hid p := h
theorem ints_keep {w w' : World} {a : Option Addr} {l : List Int} (h : Ints w w.heap.size a l) (hb : Below w.heap.size w w') : Ints w' w'.heap.size a l := (h.below hb).mono hb.size
theorem row_keep {w w' : World} {a : Option Addr} {n : Nat} (h : Row w w.heap.size a n) (hb : Below w.heap.size w w') : Row w' w'.heap.size a n := (Dr.Row.below h hb).mono hb.size
theorem lt_blk {w : World} {g : Nat} {x : Obj} (h : w.heap[g]? = some x) : g < w.heap.size := (Array.getElem?_eq_some_iff.1 h).1
theorem blk_keep {w w' : World} {g : Nat} {x : Obj} (h : w.heap[g]? = some x) (hb : Below w.heap.size w w') : w'.heap[g]? = some x := (hb.block g (lt_blk h)).trans h
theorem low_keep {w0 w w' : World} (h : Below w0.heap.size w0 w) (hb : Below w.heap.size w w') : Below w0.heap.size w0 w' := h.trans (hb.mono h.size)
theorem unR_zero {t b : ByteArray} {a : Int} (h : unR t a = .agg #[.string b, .int .i64 0, .int .i64 0]) : bwtT b = t ∧ ((bwtA b : Nat) : Int) = a ∧ bwtC b = 0 ∧ b.size ≤ 48 := by
  unfold unR tOut at h
  split at h
  · simp at h
  · split at h
    · simp at h
    · split at h
      · rename_i h1 h2 h3
        simp at h
        subst h
        refine ⟨h3.1, h3.2, ?_, ?_⟩
        · unfold bwtC
          rw [backT_size, if_neg h1, if_neg (by omega)]
        · rw [backT_size]
          omega
      · simp at h

theorem same_own {n : Nat} {l : List Int} {a : Option Addr} {c b A : Nat} {v : Value} {W : World} (hn : n = l.length) (hi : Ints W A a l) (ho : OwnI W b v l) (hl : n ≤ 1048576) :
    Calls Try.prog 20 #[.slice a n c, v] W fun e w' => e = .returned (.bool true) ∧ Below W.heap.size W w' := by
  obtain ⟨x, cx, rfl, _, h2⟩ := ho.ints
  subst hn
  refine (lwNums_same l a x c cx _ _ W hi h2 hl).mono ?_
  rintro e w' ⟨rfl, q, rfl⟩
  exact ⟨rfl, Go.RowKit.Below.trans (Below.refl _ _) ⟨rfl, rfl, rfl, Nat.le_refl _, fun _ _ => rfl⟩⟩
theorem same_owns {l : List Int} {b b' : Nat} {v v' : Value} {W : World} (h1 : OwnI W b v l) (h2 : OwnI W b' v' l) (hl : l.length ≤ 1048576) :
    Calls Try.prog 20 #[v, v'] W fun e w' => e = .returned (.bool true) ∧ Below W.heap.size W w' := by
  obtain ⟨x, cx, rfl, _, hi⟩ := h1.ints
  exact same_own rfl hi h2 hl
theorem three {W : World} {g : Nat} {x y z : Value} {t : TypeId} (h : W.heap[g]? = some (.cells #[x, y, z] t (0, 0))) : W.cell? ⟨g, 0, none⟩ = some x ∧ W.cell? ⟨g, 1, none⟩ = some y ∧ W.cell? ⟨g, 2, none⟩ = some z :=
  ⟨cell_of_row W g 0 _ _ _ h, cell_of_row W g 1 _ _ _ h, cell_of_row W g 2 _ _ _ h⟩

theorem turn_or (t : ByteArray) (x y : Nat) (h : ¬ rl t.data.toList y < rl t.data.toList x) : Op.bytesLess (t.extract x t.size ++ t.extract 0 x).toList (t.extract y t.size ++ t.extract 0 y).toList = true ∨ ((t.extract x t.size ++ t.extract 0 x).toList == (t.extract y t.size ++ t.extract 0 y).toList) = true := by
  have e : ∀ z, (t.extract z t.size ++ t.extract 0 z).toList = rl t.data.toList z := fun z => by
    rw [ByteArray.toList_eq]
    exact turnV_list t z
  rw [e x, e y, bless_eq]
  by_cases hlt : rl t.data.toList x < rl t.data.toList y
  · exact .inl (decide_eq_true hlt)
  · exact .inr (by rw [List.le_antisymm (List.not_lt.1 h) (List.not_lt.1 hlt)]; exact beq_self_eq_true _)
theorem same_own2 {n : Nat} {l : List Int} {a : Option Addr} {c b A : Nat} {v : Value} {W : World} (hn : n = l.length) (hi : Ints W A a l) (ho : OwnI W b v l) (hl : n ≤ 1048576) :
    Calls Try.prog 20 #[v, .slice a n c] W fun e w' => e = .returned (.bool true) ∧ Below W.heap.size W w' := by
  obtain ⟨x, cx, rfl, _, h2⟩ := ho.ints
  subst hn
  refine (lwNums_same l x a cx c _ _ W h2 hi hl).mono ?_
  rintro e w' ⟨rfl, q, rfl⟩
  exact ⟨rfl, ⟨rfl, rfl, rfl, Nat.le_refl _, fun _ _ => rfl⟩⟩


set_option maxRecDepth 100000 in
set_option maxHeartbeats 4000000 in
theorem walk_in (w : World) (a0 : Option Addr) (len0 cap0 : Nat) (a1 : Option Addr) (len1 cap1 : Nat) (r0 : Row w w.heap.size a0 len0) (r1 : Row w w.heap.size a1 len1) (hl0 : len0 ≤ 1048576) (hl1 : len1 ≤ 1048576) :
    Calls Try.prog 4 #[.slice a0 len0 cap0, .slice a1 len1 cap1] w fun e w' => e = .returned (.bool true) ∧ Below w.heap.size w w' := by
  have R0 := hideS r0
  have R1 := hideS r1
  have BW := hideS (Below.refl w.heap.size w)
  clear r0 r1
  go_enter Try.func4, Try.ntmps4
  go_wp2_with fail
  refine (drawBwt_any a0 len0 cap0 w hl0 R0.out).mono ?_
  rintro e w1 ⟨t, ht, rfl, hb1⟩
  have R0_ := hideS (row_keep R0.out hb1)
  have R1_ := hideS (row_keep R1.out hb1)
  have BW_ := hideS (low_keep BW.out hb1)
  clear R0
  clear R1
  clear BW
  have R0 := R0_
  clear R0_
  have R1 := R1_
  clear R1_
  have BW := BW_
  clear BW_
  clear hb1
  go_wp2_with fail
  refine (bwt_impl t w1 (by omega)).mono ?_
  rintro e w2 ⟨rfl, hb2⟩
  have R0_ := hideS (row_keep R0.out hb2)
  have R1_ := hideS (row_keep R1.out hb2)
  have BW_ := hideS (low_keep BW.out hb2)
  clear R0
  clear R1
  clear BW
  have R0 := R0_
  clear R0_
  have R1 := R1_
  clear R1_
  have BW := BW_
  clear BW_
  clear hb2
  have hcase : (t.size ≤ 48 ∧ bwtC t = 0) ∨ (48 < t.size ∧ bwtC t = 1) := by
    unfold bwtC
    by_cases h : t.size ≤ 48
    · exact .inl ⟨h, by rw [if_neg (by omega), if_neg (by omega)]⟩
    · exact .inr ⟨by omega, by rw [if_neg (by omega), if_pos (by omega)]⟩
  have HCS := hideS hcase
  clear hcase
  obtain ⟨bT, hbT⟩ : ∃ x, x = bwtT t := ⟨_, rfl⟩
  obtain ⟨bA, hbA⟩ : ∃ x, x = bwtA t := ⟨_, rfl⟩
  obtain ⟨bC, hbC⟩ : ∃ x, x = bwtC t := ⟨_, rfl⟩
  rw [← hbT, ← hbA, ← hbC]
  rw [← hbC] at HCS
  have HBT := hideS hbT
  have HBA := hideS hbA
  have HBC := hideS hbC
  clear hbT hbA hbC
  unfold sOut
  go_wp2_with fail
  have hb3 : Below w2.heap.size w2 (w2.alloc (.cells #[.string bT, .int .i64 bA, .int .i64 bC] 49)) := (Below.refl _ _).alloc (Nat.le_refl _) _
  have X : Hid ((w2.alloc (.cells #[.string bT, .int .i64 bA, .int .i64 bC] 49)).heap[w2.heap.size]? = some (.cells #[.string bT, .int .i64 bA, .int .i64 bC] 49 (0, 0))) := heap_alloc_new w2 _
  generalize hw3 : w2.alloc (.cells #[.string bT, .int .i64 bA, .int .i64 bC] 49) = w3 at hb3 X ⊢
  clear hw3
  have R0_ := hideS (row_keep R0.out hb3)
  have R1_ := hideS (row_keep R1.out hb3)
  have BW_ := hideS (low_keep BW.out hb3)
  clear R0
  clear R1
  clear BW
  have R0 := R0_
  clear R0_
  have R1 := R1_
  clear R1_
  have BW := BW_
  clear BW_
  generalize w2.heap.size = gx at X ⊢
  clear hb3
  refine (drawUnbwt_any a1 len1 cap1 w3 hl1 R1.out).mono ?_
  rintro e w4 ⟨u, at_, hu, rfl, hb4⟩
  have R0_ := hideS (row_keep R0.out hb4)
  have R1_ := hideS (row_keep R1.out hb4)
  have BW_ := hideS (low_keep BW.out hb4)
  have X_ := hideS (blk_keep X.out hb4)
  clear R0
  clear R1
  clear BW
  clear X
  have R0 := R0_
  clear R0_
  have R1 := R1_
  clear R1_
  have BW := BW_
  clear BW_
  have X := X_
  clear X_
  clear hb4
  go_wp2_with fail
  refine (unbwt_impl u at_ w4 (by omega)).mono ?_
  rintro e w5 ⟨rfl, hb5⟩
  have R0_ := hideS (row_keep R0.out hb5)
  have R1_ := hideS (row_keep R1.out hb5)
  have BW_ := hideS (low_keep BW.out hb5)
  have X_ := hideS (blk_keep X.out hb5)
  clear R0
  clear R1
  clear BW
  clear X
  have R0 := R0_
  clear R0_
  have R1 := R1_
  clear R1_
  have BW := BW_
  clear BW_
  have X := X_
  clear X_
  clear hb5
  obtain ⟨yb, yc, hy⟩ := unR_case u at_
  have HY := hideS hy
  rw [hy]
  clear hy
  go_wp2_with fail
  have hb6 : Below w5.heap.size w5 (w5.alloc (.cells #[.string yb, .int .i64 0, .int .i64 yc] 51)) := (Below.refl _ _).alloc (Nat.le_refl _) _
  have Y : Hid ((w5.alloc (.cells #[.string yb, .int .i64 0, .int .i64 yc] 51)).heap[w5.heap.size]? = some (.cells #[.string yb, .int .i64 0, .int .i64 yc] 51 (0, 0))) := heap_alloc_new w5 _
  generalize hw6 : w5.alloc (.cells #[.string yb, .int .i64 0, .int .i64 yc] 51) = w6 at hb6 Y ⊢
  clear hw6
  have R0_ := hideS (row_keep R0.out hb6)
  have R1_ := hideS (row_keep R1.out hb6)
  have BW_ := hideS (low_keep BW.out hb6)
  have X_ := hideS (blk_keep X.out hb6)
  clear R0
  clear R1
  clear BW
  clear X
  have R0 := R0_
  clear R0_
  have R1 := R1_
  clear R1_
  have BW := BW_
  clear BW_
  have X := X_
  clear X_
  generalize w5.heap.size = gy at Y ⊢
  clear hb6
  refine (drawFrontOf_any a1 len1 cap1 w6 hl1 R1.out).mono ?_
  rintro e w7 ⟨f, hf, rfl, hb7⟩
  have R0_ := hideS (row_keep R0.out hb7)
  have R1_ := hideS (row_keep R1.out hb7)
  have BW_ := hideS (low_keep BW.out hb7)
  have X_ := hideS (blk_keep X.out hb7)
  have Y_ := hideS (blk_keep Y.out hb7)
  clear R0
  clear R1
  clear BW
  clear X
  clear Y
  have R0 := R0_
  clear R0_
  have R1 := R1_
  clear R1_
  have BW := BW_
  clear BW_
  have X := X_
  clear X_
  have Y := Y_
  clear Y_
  clear hb7
  go_wp2_with fail
  refine (frontOf_impl f w7 (by omega)).mono ?_
  rintro e w8 ⟨v11, rfl, ho11, hb8⟩
  have R0_ := hideS (row_keep R0.out hb8)
  have R1_ := hideS (row_keep R1.out hb8)
  have BW_ := hideS (low_keep BW.out hb8)
  have X_ := hideS (blk_keep X.out hb8)
  have Y_ := hideS (blk_keep Y.out hb8)
  clear R0
  clear R1
  clear BW
  clear X
  clear Y
  have R0 := R0_
  clear R0_
  have R1 := R1_
  clear R1_
  have BW := BW_
  clear BW_
  have X := X_
  clear X_
  have Y := Y_
  clear Y_
  clear hb8
  obtain ⟨a11, ca11, hv, _, hi⟩ := ho11.ints
  obtain ⟨n11, hn⟩ : ∃ x, x = (frontR f.data.toList).length := ⟨_, rfl⟩
  rw [← hn] at hv
  subst hv
  have N11 := hideS hn
  have I11 := hideS hi
  clear hn hi ho11
  go_wp2_with fail
  refine (drawFb_any a0 len0 cap0 w8 hl0 R0.out).mono ?_
  rintro e w9 ⟨v12, lb, rfl, ho12, hlb, hb9⟩
  have R0_ := hideS (row_keep R0.out hb9)
  have R1_ := hideS (row_keep R1.out hb9)
  have BW_ := hideS (low_keep BW.out hb9)
  have X_ := hideS (blk_keep X.out hb9)
  have Y_ := hideS (blk_keep Y.out hb9)
  have I11_ := hideS (ints_keep I11.out hb9)
  clear R0
  clear R1
  clear BW
  clear X
  clear Y
  clear I11
  have R0 := R0_
  clear R0_
  have R1 := R1_
  clear R1_
  have BW := BW_
  clear BW_
  have X := X_
  clear X_
  have Y := Y_
  clear Y_
  have I11 := I11_
  clear I11_
  clear hb9
  obtain ⟨a12, ca12, hv, _, hi⟩ := ho12.ints
  obtain ⟨n12, hn⟩ : ∃ x, x = (lb).length := ⟨_, rfl⟩
  rw [← hn] at hv
  subst hv
  have N12 := hideS hn
  have I12 := hideS hi
  clear hn hi ho12
  go_wp2_with fail
  refine (drawZo_any a1 len1 cap1 w9 hl1 R1.out).mono ?_
  rintro e w10 ⟨v13, lz, rfl, ho13, hlz, hb10⟩
  have R0_ := hideS (row_keep R0.out hb10)
  have R1_ := hideS (row_keep R1.out hb10)
  have BW_ := hideS (low_keep BW.out hb10)
  have X_ := hideS (blk_keep X.out hb10)
  have Y_ := hideS (blk_keep Y.out hb10)
  have I11_ := hideS (ints_keep I11.out hb10)
  have I12_ := hideS (ints_keep I12.out hb10)
  clear R0
  clear R1
  clear BW
  clear X
  clear Y
  clear I11
  clear I12
  have R0 := R0_
  clear R0_
  have R1 := R1_
  clear R1_
  have BW := BW_
  clear BW_
  have X := X_
  clear X_
  have Y := Y_
  clear Y_
  have I11 := I11_
  clear I11_
  have I12 := I12_
  clear I12_
  clear hb10
  obtain ⟨a13, ca13, hv, _, hi⟩ := ho13.ints
  obtain ⟨n13, hn⟩ : ∃ x, x = (lz).length := ⟨_, rfl⟩
  rw [← hn] at hv
  subst hv
  have N13 := hideS hn
  have I13 := hideS hi
  clear hn hi ho13
  have HZI := hideS (fun (W : World) (h : Ints W W.heap.size a13 lz) => zerosOf_impl lz a13 ca13 W.heap.size W h (Nat.le_refl _) (by omega))
  rw [← N13.out] at HZI
  go_wp2_with fail
  refine (HZI.out w10 I13.out).mono ?_
  rintro e w11 ⟨v14, rfl, ho14, hb11⟩
  have R0_ := hideS (row_keep R0.out hb11)
  have R1_ := hideS (row_keep R1.out hb11)
  have BW_ := hideS (low_keep BW.out hb11)
  have X_ := hideS (blk_keep X.out hb11)
  have Y_ := hideS (blk_keep Y.out hb11)
  have I11_ := hideS (ints_keep I11.out hb11)
  have I12_ := hideS (ints_keep I12.out hb11)
  have I13_ := hideS (ints_keep I13.out hb11)
  clear R0
  clear R1
  clear BW
  clear X
  clear Y
  clear I11
  clear I12
  clear I13
  have R0 := R0_
  clear R0_
  have R1 := R1_
  clear R1_
  have BW := BW_
  clear BW_
  have X := X_
  clear X_
  have Y := Y_
  clear Y_
  have I11 := I11_
  clear I11_
  have I12 := I12_
  clear I12_
  have I13 := I13_
  clear I13_
  clear hb11
  obtain ⟨a14, ca14, hv, _, hi⟩ := ho14.ints
  obtain ⟨n14, hn⟩ : ∃ x, x = (zerosR lz).length := ⟨_, rfl⟩
  rw [← hn] at hv
  subst hv
  have N14 := hideS hn
  have I14 := hideS hi
  clear hn hi ho14
  go_wp2_with fail
  refine (drawZb_any a0 len0 cap0 w11 hl0 R0.out).mono ?_
  rintro e w12 ⟨v15, lv, rfl, ho15, hlv, hb12⟩
  have R0_ := hideS (row_keep R0.out hb12)
  have R1_ := hideS (row_keep R1.out hb12)
  have BW_ := hideS (low_keep BW.out hb12)
  have X_ := hideS (blk_keep X.out hb12)
  have Y_ := hideS (blk_keep Y.out hb12)
  have I11_ := hideS (ints_keep I11.out hb12)
  have I12_ := hideS (ints_keep I12.out hb12)
  have I13_ := hideS (ints_keep I13.out hb12)
  have I14_ := hideS (ints_keep I14.out hb12)
  clear R0
  clear R1
  clear BW
  clear X
  clear Y
  clear I11
  clear I12
  clear I13
  clear I14
  have R0 := R0_
  clear R0_
  have R1 := R1_
  clear R1_
  have BW := BW_
  clear BW_
  have X := X_
  clear X_
  have Y := Y_
  clear Y_
  have I11 := I11_
  clear I11_
  have I12 := I12_
  clear I12_
  have I13 := I13_
  clear I13_
  have I14 := I14_
  clear I14_
  clear hb12
  obtain ⟨a15, ca15, hv, _, hi⟩ := ho15.ints
  obtain ⟨n15, hn⟩ : ∃ x, x = (lv).length := ⟨_, rfl⟩
  rw [← hn] at hv
  subst hv
  have N15 := hideS hn
  have I15 := hideS hi
  clear hn hi ho15
  go_wp2_with fail
  refine (orderOf_impl t w12 (by omega)).mono ?_
  rintro e wz ⟨v16, rfl, ho16, hb13⟩
  have R0_ := hideS (row_keep R0.out hb13)
  have R1_ := hideS (row_keep R1.out hb13)
  have BW_ := hideS (low_keep BW.out hb13)
  have X_ := hideS (blk_keep X.out hb13)
  have Y_ := hideS (blk_keep Y.out hb13)
  have I11_ := hideS (ints_keep I11.out hb13)
  have I12_ := hideS (ints_keep I12.out hb13)
  have I13_ := hideS (ints_keep I13.out hb13)
  have I14_ := hideS (ints_keep I14.out hb13)
  have I15_ := hideS (ints_keep I15.out hb13)
  clear R0
  clear R1
  clear BW
  clear X
  clear Y
  clear I11
  clear I12
  clear I13
  clear I14
  clear I15
  have R0 := R0_
  clear R0_
  have R1 := R1_
  clear R1_
  have BW := BW_
  clear BW_
  have X := X_
  clear X_
  have Y := Y_
  clear Y_
  have I11 := I11_
  clear I11_
  have I12 := I12_
  clear I12_
  have I13 := I13_
  clear I13_
  have I14 := I14_
  clear I14_
  have I15 := I15_
  clear I15_
  clear hb13
  obtain ⟨a16, ca16, hv, _, hi⟩ := ho16.ints
  obtain ⟨n16, hn⟩ : ∃ x, x = (ordR t).length := ⟨_, rfl⟩
  rw [← hn] at hv
  subst hv
  have N16 := hideS hn
  have I16 := hideS hi
  clear hn hi ho16
  have e11 : n11 ≤ 400 := by rw [N11.out]; exact frontR_len _
  have e14 : n14 ≤ 500 := by rw [N14.out]; exact Nat.le_trans (zerosR_len _) hlz
  have e16 : n16 ≤ 48 := by rw [N16.out]; exact ordR_len _
  have e12 : n12 ≤ 500 := by rw [N12.out]; exact hlb
  have e13 : n13 ≤ 500 := by rw [N13.out]; exact hlz
  have e15 : n15 ≤ 600 := by rw [N15.out]; exact hlv
  clear HZI R0 R1 hl0 hl1
  have C44 : Hid (∀ W, Calls Try.prog 44 #[.string t] W fun e w' => e = .returned (.agg #[.string bT, .int .i64 bA, .int .i64 bC]) ∧ Below W.heap.size W w') := fun W => by
    have := bwt_spec t W (by omega)
    rw [← HBT.out, ← HBA.out, ← HBC.out] at this
    exact this
  have C45 : Hid (∀ W, Calls Try.prog 45 #[.string u, .int .i64 at_] W fun e w' => e = .returned (.agg #[.string yb, .int .i64 0, .int .i64 yc]) ∧ Below W.heap.size W w') := fun W => by
    have := unbwt_spec u at_ W (by omega)
    rw [HY.out] at this
    exact this
  have C46 : Hid (∀ W, Calls Try.prog 46 #[.string f] W fun e w' => ∃ v, e = .returned v ∧ OwnI w' W.heap.size v (frontR f.data.toList) ∧ Below W.heap.size W w') := fun W => frontOf_spec f W (by omega)
  have L11 : Hid (∀ W b v, Below wz.heap.size wz W → OwnI W b v (frontR f.data.toList) → Calls Try.prog 20 #[.slice a11 n11 ca11, v] W fun e w' => e = .returned (.bool true) ∧ Below W.heap.size W w') := fun W b v h1 h2 => same_own N11.out (ints_keep I11.out h1) h2 (by omega)
  have C47 : Hid (∀ W, Below wz.heap.size wz W → Calls Try.prog 47 #[.slice a12 n12 ca12] W fun e w' => e = .returned (.string ⟨(fbackR lb).toArray⟩) ∧ Below W.heap.size W w') := fun W h => by
    have := frontBack_impl lb a12 ca12 W.heap.size W (ints_keep I12.out h) (Nat.le_refl _) (by omega)
    rw [← N12.out] at this
    exact this
  have C48 : Hid (∀ W, Below wz.heap.size wz W → Calls Try.prog 48 #[.slice a12 n12 ca12] W fun e w' => e = .returned (.string ⟨(fbackR lb).toArray⟩) ∧ Below W.heap.size W w') := fun W h => by
    have := frontBack_spec lb a12 ca12 W.heap.size W (ints_keep I12.out h) (Nat.le_refl _) (by omega)
    rw [← N12.out] at this
    exact this
  have C49 : Hid (∀ W, Below wz.heap.size wz W → Calls Try.prog 49 #[.slice a13 n13 ca13] W fun e w' => ∃ v, e = .returned v ∧ OwnI w' W.heap.size v (zerosR lz) ∧ Below W.heap.size W w') := fun W h => by
    have := zerosOf_spec lz a13 ca13 W.heap.size W (ints_keep I13.out h) (Nat.le_refl _) (by omega)
    rw [← N13.out] at this
    exact this
  have L14 : Hid (∀ W b v, Below wz.heap.size wz W → OwnI W b v (zerosR lz) → Calls Try.prog 20 #[.slice a14 n14 ca14, v] W fun e w' => e = .returned (.bool true) ∧ Below W.heap.size W w') := fun W b v h1 h2 => same_own N14.out (ints_keep I14.out h1) h2 (by omega)
  have C50 : Hid (∀ W, Below wz.heap.size wz W → Calls Try.prog 50 #[.slice a15 n15 ca15] W fun e w' => ∃ v, e = .returned v ∧ OwnI w' W.heap.size v (backR lv) ∧ Below W.heap.size W w') := fun W h => by
    have := zerosBack_impl lv a15 ca15 W.heap.size W (ints_keep I15.out h) (Nat.le_refl _) (by omega)
    rw [← N15.out] at this
    exact this
  have C51 : Hid (∀ W, Below wz.heap.size wz W → Calls Try.prog 51 #[.slice a15 n15 ca15] W fun e w' => ∃ v, e = .returned v ∧ OwnI w' W.heap.size v (backR lv) ∧ Below W.heap.size W w') := fun W h => by
    have := zerosBack_spec lv a15 ca15 W.heap.size W (ints_keep I15.out h) (Nat.le_refl _) (by omega)
    rw [← N15.out] at this
    exact this
  have L15 : Hid (∀ W b v b' v', OwnI W b v (backR lv) → OwnI W b' v' (backR lv) → Calls Try.prog 20 #[v, v'] W fun e w' => e = .returned (.bool true) ∧ Below W.heap.size W w') := fun W b v b' v' h1 h2 => same_owns h1 h2 (Nat.le_trans (backR_len _) (by decide))
  have C52 : Hid (∀ W, Calls Try.prog 52 #[.string t] W fun e w' => ∃ v, e = .returned v ∧ OwnI w' W.heap.size v (ordR t) ∧ Below W.heap.size W w') := fun W => orderOf_spec t W (by omega)
  have L16 : Hid (∀ W b v, Below wz.heap.size wz W → OwnI W b v (ordR t) → Calls Try.prog 20 #[.slice a16 n16 ca16, v] W fun e w' => e = .returned (.bool true) ∧ Below W.heap.size W w') := fun W b v h1 h2 => same_own N16.out (ints_keep I16.out h1) h2 (by omega)
  have XC : Hid (∀ W, Below wz.heap.size wz W → W.cell? ⟨gx, 0, none⟩ = some (.string bT) ∧ W.cell? ⟨gx, 1, none⟩ = some (.int .i64 bA) ∧ W.cell? ⟨gx, 2, none⟩ = some (.int .i64 bC)) := fun W h => three (blk_keep X.out h)
  have YC : Hid (∀ W, Below wz.heap.size wz W → W.cell? ⟨gy, 0, none⟩ = some (.string yb) ∧ W.cell? ⟨gy, 1, none⟩ = some (.int .i64 0) ∧ W.cell? ⟨gy, 2, none⟩ = some (.int .i64 yc)) := fun W h => three (blk_keep Y.out h)
  clear X Y
  have mixed := mixed
  have bxx : ((bA : Int) != (bA : Int)) = false := by simp
  go_upto_region 14 with fail
  go_cut [100] from 54 to 99 (fun s100 wx => s100 = .bool false ∧ Below wz.heap.size wz wx)
  case first =>
    have K0 : Hid (Below wz.heap.size wz wz.drew) := (Below.refl _ _).drew
    have CXY : Hid (∀ W, Below wz.heap.size wz W → (W.cell? ⟨gx, 0, none⟩ = some (.string bT) ∧ W.cell? ⟨gx, 1, none⟩ = some (.int .i64 bA) ∧ W.cell? ⟨gx, 2, none⟩ = some (.int .i64 bC)) ∧ W.cell? ⟨gy, 0, none⟩ = some (.string yb) ∧ W.cell? ⟨gy, 1, none⟩ = some (.int .i64 0) ∧ W.cell? ⟨gy, 2, none⟩ = some (.int .i64 yc)) := fun W h => ⟨XC.out W h, YC.out W h⟩
    have hS0 := CXY.out _ K0.out
    go_region_held3 (fun W => (W.cell? ⟨gx, 0, none⟩ = some (.string bT) ∧ W.cell? ⟨gx, 1, none⟩ = some (.int .i64 bA) ∧ W.cell? ⟨gx, 2, none⟩ = some (.int .i64 bC)) ∧ W.cell? ⟨gy, 0, none⟩ = some (.string yb) ∧ W.cell? ⟨gy, 1, none⟩ = some (.int .i64 0) ∧ W.cell? ⟨gy, 2, none⟩ = some (.int .i64 yc)) (assumption) (first | (go_at_call 44; (with_reducible refine (C44.out _).mono ?_); rintro e w44 ⟨rfl, hbw44⟩; have K44 := hideS (low_keep K0.out hbw44); have hS_K44 := CXY.out _ K44.out; clear hbw44) | (go_at_call 45; (with_reducible refine (C45.out _).mono ?_); rintro e w45 ⟨rfl, hbw45⟩; have K45 := hideS (low_keep K44.out hbw45); have hS_K45 := CXY.out _ K45.out; clear hbw45) | (go_at_call 46; (with_reducible refine (C46.out _).mono ?_); rintro e w46 ⟨v46, rfl, ho46, hbw46⟩; have K46 := hideS (low_keep K45.out hbw46); have hS_K46 := CXY.out _ K46.out; have O46 := hideS ho46; clear ho46; clear hbw46) | (go_at_call 20; (with_reducible refine (L11.out _ _ _ K46.out O46.out).mono ?_); rintro e w69 ⟨rfl, hbw69⟩; have K69 := hideS (low_keep K46.out hbw69); have hS_K69 := CXY.out _ K69.out; clear hbw69) | (go_at_call 47; (with_reducible refine (C47.out _ K69.out).mono ?_); rintro e w47 ⟨rfl, hbw47⟩; have K47 := hideS (low_keep K69.out hbw47); have hS_K47 := CXY.out _ K47.out; clear hbw47) | (go_at_call 48; (with_reducible refine (C48.out _ K47.out).mono ?_); rintro e w48 ⟨rfl, hbw48⟩; have K48 := hideS (low_keep K47.out hbw48); have hS_K48 := CXY.out _ K48.out; clear hbw48) | (go_at_call 49; (with_reducible refine (C49.out _ K48.out).mono ?_); rintro e w49 ⟨v49, rfl, ho49, hbw49⟩; have K49 := hideS (low_keep K48.out hbw49); have hS_K49 := CXY.out _ K49.out; have O49 := hideS ho49; clear ho49; clear hbw49) | (go_at_call 20; (with_reducible refine (L14.out _ _ _ K49.out O49.out).mono ?_); rintro e w83 ⟨rfl, hbw83⟩; have K83 := hideS (low_keep K49.out hbw83); have hS_K83 := CXY.out _ K83.out; clear hbw83) | (go_at_call 50; (with_reducible refine (C50.out _ K83.out).mono ?_); rintro e w50 ⟨v50, rfl, ho50, hbw50⟩; have K50 := hideS (low_keep K83.out hbw50); have hS_K50 := CXY.out _ K50.out; have O50 := hideS ho50; clear ho50; clear hbw50) | (go_at_call 51; (with_reducible refine (C51.out _ K50.out).mono ?_); rintro e w51 ⟨v51, rfl, ho51, hbw51⟩; have K51 := hideS (low_keep K50.out hbw51); have hS_K51 := CXY.out _ K51.out; have O50b := hideS (O50.out.below hbw51); have O51 := hideS ho51; clear ho51; clear hbw51) | (go_at_call 20; (with_reducible refine (L15.out _ _ _ _ _ O50b.out O51.out).mono ?_); rintro e w91 ⟨rfl, hbw91⟩; have K91 := hideS (low_keep K51.out hbw91); have hS_K91 := CXY.out _ K91.out; clear hbw91) | (go_at_call 52; (with_reducible refine (C52.out _).mono ?_); rintro e w52 ⟨v52, rfl, ho52, hbw52⟩; have K52 := hideS (low_keep K91.out hbw52); have hS_K52 := CXY.out _ K52.out; have O52 := hideS ho52; clear ho52; clear hbw52) | (go_at_call 20; (with_reducible refine (L16.out _ _ _ K52.out O52.out).mono ?_); rintro e w98 ⟨rfl, hbw98⟩; have K98 := hideS (low_keep K52.out hbw98); have hS_K98 := CXY.out _ K98.out; clear hbw98))
    all_goals (try go_wp2_with fail)
    all_goals (go_meet; exact ⟨rfl, K98.out⟩)
  case rest =>
    obtain ⟨rfl, hbc⟩ := hcut
    have KC := hideS hbc
    clear hbc
    obtain ⟨cx0, cx1, cx2⟩ := XC.out _ KC.out
    obtain ⟨cy0, cy1, cy2⟩ := YC.out _ KC.out
    have UIM : Hid (∀ W, bC = 0 → Calls Try.prog 36 #[.string bT, .int .i64 bA] W fun e w' => e = .returned (.agg #[.string t, .int .i64 0, .int .i64 0]) ∧ Below W.heap.size W w') := fun W h0 => by
      have h48 : t.size ≤ 48 := by rcases HCS.out with h | h; exact h.1; omega
      have := unbwt_impl bT (bA : Int) W (by rw [HBT.out, bwtT_size h48]; omega)
      rw [HBT.out, HBA.out, unR_bwt h48] at this
      rw [HBT.out, HBA.out]
      exact this
    have BIM : Hid (∀ W, yc = 0 → Calls Try.prog 34 #[.string yb] W fun e w' => e = .returned (.agg #[.string u, .int .i64 at_, .int .i64 0]) ∧ Below W.heap.size W w') := fun W h0 => by
      have h := HY.out
      rw [h0] at h
      obtain ⟨h1, h2, h3, h4⟩ := unR_zero h
      have := bwt_impl yb W (by omega)
      rw [h1, h3] at this
      unfold sOut at this
      rw [h2] at this
      exact this
    clear C44 C45 C46 L11 C47 C48 C49 L14 C51 L15 C52 L16 HY HBC bxx mixed
    have hcz : bC = 0 ∨ bC = 1 := by rcases HCS.out with h | h; exact .inl h.2; exact .inr h.2
    go_upto_region 16 with fail
    go_cut [127] from 101 to 126 (fun s127 wx => s127 = .bool false ∧ Below wz.heap.size wz wx)
    case first =>
      have YBW : Hid (∀ W, Below wz.heap.size wz W → W.cell? ⟨gy, 0, none⟩ = some (.string yb) ∧ W.cell? ⟨gy, 1, none⟩ = some (.int .i64 0) ∧ W.cell? ⟨gy, 2, none⟩ = some (.int .i64 yc)) := YC.out
      have hatt : (at_ != at_) = false := by simp
      by_cases hyc : yc = 0
      · subst hyc
        rcases hcz with rfl | rfl
        · go_wp2_with fail
          refine (UIM.out _ (by trivial)).mono ?_
          rintro e w70 ⟨rfl, hb70⟩
          have K70 := hideS (low_keep KC.out hb70)
          obtain ⟨dy0, dy1, dy2⟩ := YBW.out _ K70.out
          clear hb70
          go_wp2_with fail
          refine (BIM.out _ (by trivial)).mono ?_
          rintro e w71 ⟨rfl, hb71⟩
          have K71 := hideS (low_keep K70.out hb71)
          clear hb71
          go_wp2_with fail
          go_meet
          exact ⟨rfl, K71.out⟩
        · go_wp2_with fail
          refine (BIM.out _ (by trivial)).mono ?_
          rintro e w71 ⟨rfl, hb71⟩
          have K71 := hideS (low_keep KC.out hb71)
          clear hb71
          go_wp2_with fail
          go_meet
          exact ⟨rfl, K71.out⟩
      · have hyc' : (yc == 0) = false := by simp; exact hyc
        rcases hcz with rfl | rfl
        · go_wp2_with fail
          refine (UIM.out _ (by trivial)).mono ?_
          rintro e w70 ⟨rfl, hb70⟩
          have K70 := hideS (low_keep KC.out hb70)
          obtain ⟨dy0, dy1, dy2⟩ := YBW.out _ K70.out
          clear hb70
          go_wp2_with fail
          go_meet
          exact ⟨rfl, K70.out⟩
        · go_wp2_with fail
          go_meet
          exact ⟨rfl, KC.out⟩
    case rest =>
      obtain ⟨rfl, hbc⟩ := hcut
      have KD := hideS hbc
      clear hbc UIM BIM XC YC KC cx0 cx1 cx2 cy0 cy1 cy2 hcz
      have HORD : Hid (∀ i, i < n16 → t.size ≤ 48 ∧ n16 = t.size ∧ ∃ b off, a16 = some ⟨b, off, none⟩ ∧ ∀ W, Below wz.heap.size wz W → ∀ j, j < n16 → W.cell? ⟨b, off + j, none⟩ = some (.int .i64 (ordF t j : Nat))) := by
        intro i hi
        have h48 : t.size ≤ 48 := by
          refine Nat.le_of_not_lt fun h => ?_
          have := N16.out
          rw [ordR_no h] at this
          simp at this
          omega
        have hr : ordR t = ints (ord t) := ordR_yes h48 (ord_ex t)
        have hn : n16 = t.size := by rw [N16.out, hr, ints_len, ord_len]
        obtain ⟨b, off, hb, hbz, hc⟩ := I16.out.some (by rw [← N16.out]; omega)
        refine ⟨h48, hn, b, off, hb, fun W hW j hj => ?_⟩
        have hjl : j < (ordR t).length := by rw [← N16.out]; exact hj
        rw [hW.cell (p := ⟨b, off + j, none⟩) hbz, hc j hjl]
        congr 2
        have hjo : j < (ord t).length := by rw [ord_len]; omega
        simp only [hr]
        unfold ints ordF
        rw [List.getElem_map, List.getD_eq_getElem?_getD, List.getElem?_eq_getElem hjo]
        rfl
      go_wp2_with fail
      go_loopw [17, 18, 19] (fun iv _ _ wr => ∃ i : Nat, iv = .int .i64 i ∧ 1 ≤ i ∧ i ≤ n16 + 1 ∧ Below wz.heap.size wz wr) (fun iv _ _ _ => n16 + 1 - (intOf iv).toNat)
      case atStart => exact ⟨1, rfl, by omega, by omega, KD.out⟩
      case round =>
        obtain ⟨i, rfl, hi1, hi2, hbw⟩ := hrel
        have KW := hideS hbw
        clear hbw
        by_cases hlt : i < n16
        · obtain ⟨h48, hn, b, off, rfl, hc⟩ := HORD.out i hlt
          obtain ⟨j, rfl⟩ : ∃ j, i = j + 1 := ⟨i - 1, by omega⟩
          have c1 := hc wr KW.out j (by omega)
          have c2 := hc wr KW.out (j + 1) hlt
          have q1 := ordF_lt t j (by omega)
          have q2 := ordF_lt t (j + 1) (by omega)
          have HLE := hideS (ord_le (t := t) (j := j) (j' := j + 1) (by omega) (by omega))
          generalize ordF t j = x at c1 q1 HLE
          generalize ordF t (j + 1) = y at c2 q2 HLE
          have hj1 : ((j + 1 : Nat) : Int) - 1 = (j : Int) := by omega
          have hjn : (j : Int) < (n16 : Int) := by omega
          have hjn2 : (j : Int) + 1 < (n16 : Int) := by omega
          clear hc hn
          rcases turn_or t x y HLE.out with hb1 | hb2
          · skip
            go_wp2_with fail
            go_quiet (fail)
            go_wp2_with fail
            go_roundw
            case rel => exact ⟨j + 2, by go_num, by omega, by omega, below_drewN KW.out _⟩
            case measure => simp [intOf]; omega
          · have hb1 : Op.bytesLess (t.extract x t.size ++ t.extract 0 x).toList (t.extract y t.size ++ t.extract 0 y).toList = false := by
              rw [eq_of_beq hb2, bless_eq]
              exact decide_eq_false (List.lt_irrefl _)
            go_wp2_with fail
            go_quiet (fail)
            go_wp2_with fail
            go_roundw
            case rel => exact ⟨j + 2, by go_num, by omega, by omega, below_drewN KW.out _⟩
            case measure => simp [intOf]; omega
        · have hlt' : ¬ (i : Int) < (n16 : Int) := by omega
          clear HORD HCS HBT HBA
          have FB : Hid (∀ W, Below wz.heap.size wz W → Calls Try.prog 47 #[.slice a11 n11 ca11] W fun e w' => e = .returned (.string f) ∧ Below W.heap.size W w') := fun W h => by
            have := frontBack_impl (frontR f.data.toList) a11 ca11 W.heap.size W (ints_keep I11.out h) (Nat.le_refl _) (by have := N11.out; omega)
            rw [← N11.out, front_back _ (by simp; omega)] at this
            exact this
          have ZB : Hid (∀ W, Below wz.heap.size wz W → ¬ n14 = 0 → Calls Try.prog 50 #[.slice a14 n14 ca14] W fun e w' => ∃ v, e = .returned v ∧ OwnI w' W.heap.size v lz ∧ Below W.heap.size W w') := fun W h h0 => by
            have hn : numsR lz 255 = true := by
              cases hq : numsR lz 255 with
              | true => rfl
              | false =>
                exfalso
                have := N14.out
                rw [zerosR_no hq] at this
                exact h0 this
            have := zerosBack_impl (zerosR lz) a14 ca14 W.heap.size W (ints_keep I14.out h) (Nat.le_refl _) (by have := N14.out; omega)
            rw [← N14.out, zeros_back hn] at this
            exact this
          have LZ : Hid (∀ W b v, Below wz.heap.size wz W → OwnI W b v lz → Calls Try.prog 20 #[v, .slice a13 n13 ca13] W fun e w' => e = .returned (.bool true) ∧ Below W.heap.size W w') := fun W b v h1 h2 => same_own2 N13.out (ints_keep I13.out h1) h2 (by omega)
          clear N11 N12 N13 N14 N15 N16 I11 I12 I13 I14 I15 I16
          by_cases h14 : n14 = 0
          · subst h14
            go_wp2_with fail
            refine (FB.out _ KW.out).mono ?_
            rintro e w90 ⟨rfl, hb90⟩
            have K90 := hideS (low_keep KW.out hb90)
            clear hb90
            go_wp2_with fail
            go_ret
            exact ⟨rfl, low_keep BW.out K90.out⟩
          · have h14' : ((n14 : Int) == 0) = false := by simp; omega
            go_wp2_with fail
            refine (FB.out _ KW.out).mono ?_
            rintro e w90 ⟨rfl, hb90⟩
            have K90 := hideS (low_keep KW.out hb90)
            clear hb90
            go_wp2_with fail
            refine (ZB.out _ K90.out h14).mono ?_
            rintro e w91 ⟨v91, rfl, ho91, hb91⟩
            have K91 := hideS (low_keep K90.out hb91)
            have O91 := hideS ho91
            clear hb91 ho91
            go_wp2_with fail
            refine (LZ.out _ _ _ K91.out O91.out).mono ?_
            rintro e w92 ⟨rfl, hb92⟩
            have K92 := hideS (low_keep K91.out hb92)
            clear hb92
            go_wp2_with fail
            go_ret
            exact ⟨rfl, low_keep BW.out K92.out⟩
end Go.Proofs.Ytmkpakhpjgocjaa.fnSort
