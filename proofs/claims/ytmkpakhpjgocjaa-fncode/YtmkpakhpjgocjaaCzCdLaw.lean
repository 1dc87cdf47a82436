/- The walk of the law FnCode. -/
import Derived.Test.YtmkpakhpjgocjaaCz24
import Derived.Test.YtmkpakhpjgocjaaCz27
import Derived.Test.YtmkpakhpjgocjaaCz30
import Derived.Test.YtmkpakhpjgocjaaCz23
import Derived.Test.YtmkpakhpjgocjaaCz15
import Derived.Test.YtmkpakhpjgocjaaBitWalks
import Derived.Deep.CutRange
import Derived.Deep.RegionWith
import Derived.BigRegion
import Derived.BigQuiet
import Derived.Deep.RegionHeld3
namespace Go.Proofs.Ytmkpakhpjgocjaa.fnCode
open Go.RowKit
open Go.Proofs.Ytmkpakhpjgocjaa.Dr (Row row_of IsRow drawLen_any drawWhole_any drawPack_any drawOpen_any drawPut_any drawGet_any)
open Go.Proofs.Ytmkpakhpjgocjaa.In (Ints OwnI)
open Go.Proofs.Ytmkpakhpjgocjaa.Hf (lensR nats lenOf dep lengths_impl lengths_spec)
open Go.Proofs.Ytmkpakhpjgocjaa.Bi (whole whole_impl whole_spec codesR codesOf_impl codesOf_spec bitsR bitsOf_impl bitsOf_spec packR pack_impl pack_spec openR open_impl open_spec putR getR)
open Go.Proofs.Ytmkpakhpjgocjaa.So (lwNums_same)

theorem ints_keep {w w' : World} {a : Option Addr} {l : List Int} (h : Ints w w.heap.size a l) (hb : Below w.heap.size w w') : Ints w' w'.heap.size a l := (h.below hb).mono hb.size
theorem row_keep {w w' : World} {a : Option Addr} {n : Nat} (h : Row w w.heap.size a n) (hb : Below w.heap.size w w') : Row w' w'.heap.size a n := (Dr.Row.below h hb).mono hb.size
theorem lt_blk {w : World} {g : Nat} {x : Obj} (h : w.heap[g]? = some x) : g < w.heap.size := (Array.getElem?_eq_some_iff.1 h).1
theorem blk_keep {w w' : World} {g : Nat} {x : Obj} (h : w.heap[g]? = some x) (hb : Below w.heap.size w w') : w'.heap[g]? = some x := (hb.block g (lt_blk h)).trans h
theorem low_keep {w0 w w' : World} (h : Below w0.heap.size w0 w) (hb : Below w.heap.size w w') : Below w0.heap.size w0 w' := h.trans (hb.mono h.size)
theorem same_rows {n : Nat} {l : List Int} {a b : Option Addr} {c d A B : Nat} {W : World} (hn : n = l.length) (hi : Ints W A a l) (ho : Ints W B b l) (hl : n ≤ 1048576) :
    Calls Try.prog 20 #[.slice a n c, .slice b n d] W fun e w' => e = .returned (.bool true) ∧ Below W.heap.size W w' := by
  subst hn
  refine (lwNums_same l a b c d _ _ W hi ho hl).mono ?_
  rintro e w' ⟨rfl, q, rfl⟩
  exact ⟨rfl, ⟨rfl, rfl, rfl, Nat.le_refl _, fun _ _ => rfl⟩⟩
theorem same_own {n : Nat} {l : List Int} {a : Option Addr} {c b A : Nat} {v : Value} {W : World} (hn : n = l.length) (hi : Ints W A a l) (ho : OwnI W b v l) (hl : n ≤ 1048576) :
    Calls Try.prog 20 #[.slice a n c, v] W fun e w' => e = .returned (.bool true) ∧ Below W.heap.size W w' := by
  obtain ⟨x, cx, rfl, _, h2⟩ := ho.ints
  rw [← hn]
  exact same_rows hn hi h2 hl
theorem same_texts {l : List ByteArray} {lo hi lo' hi' : Nat} {u v : Value} {W : World} (h1 : St.OwnIn W lo hi u l) (h2 : St.OwnIn W lo' hi' v l) (h3 : l.length ≤ 1048576) :
    Calls Try.prog 24 #[u, v] W fun e w' => e = .returned (.bool true) ∧ Below W.heap.size W w' := by
  obtain ⟨x, cx, rfl, g1⟩ := h1.strs
  obtain ⟨y, cy, rfl, g2⟩ := h2.strs
  exact St.texts_any x y cx cy l W (max hi hi') (g1.mono (Nat.le_max_left _ _)) (g2.mono (Nat.le_max_right _ _)) h3
theorem three {W : World} {g : Nat} {x y z : Value} {t : TypeId} (h : W.heap[g]? = some (.cells #[x, y, z] t (0, 0))) : W.cell? ⟨g, 0, none⟩ = some x ∧ W.cell? ⟨g, 1, none⟩ = some y ∧ W.cell? ⟨g, 2, none⟩ = some z :=
  ⟨cell_of_row W g 0 _ _ _ h, cell_of_row W g 1 _ _ _ h, cell_of_row W g 2 _ _ _ h⟩

set_option maxRecDepth 100000 in
set_option maxHeartbeats 8000000 in
theorem walk_in (DB : Hid (∀ (a : Option Addr) (len cap : Nat) (w : World), len ≤ 1048576 → Row w w.heap.size a len → Calls Try.prog 11 #[.slice a len cap] w fun e w' => ∃ x y : Int, e = .returned (.tuple #[.int .i64 x, .int .i64 y]) ∧ Below w.heap.size w w'))
    (w : World) (a0 : Option Addr) (len0 cap0 : Nat) (a1 : Option Addr) (len1 cap1 : Nat) (r0 : Row w w.heap.size a0 len0) (r1 : Row w w.heap.size a1 len1) (hl0 : len0 ≤ 1048576) (hl1 : len1 ≤ 1048576) :
    Calls Try.prog 3 #[.slice a0 len0 cap0, .slice a1 len1 cap1] w fun e w' => e = .returned (.bool true) ∧ Below w.heap.size w w' := by
  have R0 := hideC r0
  have R1 := hideC r1
  have BW := hideC (Below.refl w.heap.size w)
  clear r0 r1
  go_enter Try.func3, Try.ntmps3
  go_wp2_with fail
  refine (drawLen_any a0 len0 cap0 w hl0 R0.out).mono ?_
  rintro e w1 ⟨v5, lc, rfl, ho5, hl5, hb1⟩
  have R0_ := hideC (row_keep R0.out hb1)
  have R1_ := hideC (row_keep R1.out hb1)
  have BW_ := hideC (low_keep BW.out hb1)
  clear R0
  clear R1
  clear BW
  have R0 := R0_
  clear R0_
  have R1 := R1_
  clear R1_
  have BW := BW_
  clear BW_
  clear hb1
  obtain ⟨a5, ca5, hv, _, hi⟩ := ho5.ints
  obtain ⟨n5, hn⟩ : ∃ x, x = (lc).length := ⟨_, rfl⟩
  rw [← hn] at hv
  subst hv
  have N5 := hideC hn
  have I5 := hideC hi
  clear hn hi ho5
  have HLI := hideC (fun (W : World) (h : Ints W W.heap.size a5 lc) => lengths_impl a5 ca5 lc W h (by omega))
  rw [← N5.out] at HLI
  go_wp2_with fail
  refine (HLI.out w1 I5.out).mono ?_
  rintro e w2 ⟨v6, rfl, ho6, hb2⟩
  have R0_ := hideC (row_keep R0.out hb2)
  have R1_ := hideC (row_keep R1.out hb2)
  have BW_ := hideC (low_keep BW.out hb2)
  have I5_ := hideC (ints_keep I5.out hb2)
  clear R0
  clear R1
  clear BW
  clear I5
  have R0 := R0_
  clear R0_
  have R1 := R1_
  clear R1_
  have BW := BW_
  clear BW_
  have I5 := I5_
  clear I5_
  clear hb2
  obtain ⟨a6, ca6, hv, _, hi⟩ := ho6.ints
  obtain ⟨n6, hn⟩ : ∃ x, x = (lensR lc).length := ⟨_, rfl⟩
  rw [← hn] at hv
  subst hv
  have N6 := hideC hn
  have I6 := hideC hi
  clear hn hi ho6
  go_wp2_with fail
  refine (drawWhole_any a1 len1 cap1 w2 hl1 R1.out).mono ?_
  rintro e w3 ⟨v7, lw, rfl, ho7, hl7, hb3⟩
  have R0_ := hideC (row_keep R0.out hb3)
  have R1_ := hideC (row_keep R1.out hb3)
  have BW_ := hideC (low_keep BW.out hb3)
  have I5_ := hideC (ints_keep I5.out hb3)
  have I6_ := hideC (ints_keep I6.out hb3)
  clear R0
  clear R1
  clear BW
  clear I5
  clear I6
  have R0 := R0_
  clear R0_
  have R1 := R1_
  clear R1_
  have BW := BW_
  clear BW_
  have I5 := I5_
  clear I5_
  have I6 := I6_
  clear I6_
  clear hb3
  obtain ⟨a7, ca7, hv, _, hi⟩ := ho7.ints
  obtain ⟨n7, hn⟩ : ∃ x, x = (lw).length := ⟨_, rfl⟩
  rw [← hn] at hv
  subst hv
  have N7 := hideC hn
  have I7 := hideC hi
  clear hn hi ho7
  go_wp2_with fail
  refine (DB.out a0 len0 cap0 w3 hl0 R0.out).mono ?_
  rintro e w4 ⟨bn, bwd, rfl, hb4⟩
  have R0_ := hideC (row_keep R0.out hb4)
  have R1_ := hideC (row_keep R1.out hb4)
  have BW_ := hideC (low_keep BW.out hb4)
  have I5_ := hideC (ints_keep I5.out hb4)
  have I6_ := hideC (ints_keep I6.out hb4)
  have I7_ := hideC (ints_keep I7.out hb4)
  clear R0
  clear R1
  clear BW
  clear I5
  clear I6
  clear I7
  have R0 := R0_
  clear R0_
  have R1 := R1_
  clear R1_
  have BW := BW_
  clear BW_
  have I5 := I5_
  clear I5_
  have I6 := I6_
  clear I6_
  have I7 := I7_
  clear I7_
  clear hb4
  go_wp2_with fail
  refine (drawPack_any a1 len1 cap1 w4 hl1 R1.out).mono ?_
  rintro e w5 ⟨bb, hbb, rfl, hb5⟩
  have R0_ := hideC (row_keep R0.out hb5)
  have R1_ := hideC (row_keep R1.out hb5)
  have BW_ := hideC (low_keep BW.out hb5)
  have I5_ := hideC (ints_keep I5.out hb5)
  have I6_ := hideC (ints_keep I6.out hb5)
  have I7_ := hideC (ints_keep I7.out hb5)
  clear R0
  clear R1
  clear BW
  clear I5
  clear I6
  clear I7
  have R0 := R0_
  clear R0_
  have R1 := R1_
  clear R1_
  have BW := BW_
  clear BW_
  have I5 := I5_
  clear I5_
  have I6 := I6_
  clear I6_
  have I7 := I7_
  clear I7_
  clear hb5
  go_wp2_with fail
  refine (drawOpen_any a0 len0 cap0 w5 hl0 R0.out).mono ?_
  rintro e w6 ⟨ob, om, hob, rfl, hb6⟩
  have R0_ := hideC (row_keep R0.out hb6)
  have R1_ := hideC (row_keep R1.out hb6)
  have BW_ := hideC (low_keep BW.out hb6)
  have I5_ := hideC (ints_keep I5.out hb6)
  have I6_ := hideC (ints_keep I6.out hb6)
  have I7_ := hideC (ints_keep I7.out hb6)
  clear R0
  clear R1
  clear BW
  clear I5
  clear I6
  clear I7
  have R0 := R0_
  clear R0_
  have R1 := R1_
  clear R1_
  have BW := BW_
  clear BW_
  have I5 := I5_
  clear I5_
  have I6 := I6_
  clear I6_
  have I7 := I7_
  clear I7_
  clear hb6
  go_wp2_with fail
  refine (drawPut_any a1 len1 cap1 w6 hl1 R1.out).mono ?_
  rintro e w7 ⟨v13, lp, v14, ls, rfl, ho13, hl13, ho14, hl14, hb7⟩
  have R0_ := hideC (row_keep R0.out hb7)
  have R1_ := hideC (row_keep R1.out hb7)
  have BW_ := hideC (low_keep BW.out hb7)
  have I5_ := hideC (ints_keep I5.out hb7)
  have I6_ := hideC (ints_keep I6.out hb7)
  have I7_ := hideC (ints_keep I7.out hb7)
  clear R0
  clear R1
  clear BW
  clear I5
  clear I6
  clear I7
  have R0 := R0_
  clear R0_
  have R1 := R1_
  clear R1_
  have BW := BW_
  clear BW_
  have I5 := I5_
  clear I5_
  have I6 := I6_
  clear I6_
  have I7 := I7_
  clear I7_
  clear hb7
  obtain ⟨a13, ca13, hv, _, hi⟩ := ho13.ints
  obtain ⟨n13, hn⟩ : ∃ x, x = (lp).length := ⟨_, rfl⟩
  rw [← hn] at hv
  subst hv
  have N13 := hideC hn
  have I13 := hideC hi
  clear hn hi ho13
  obtain ⟨a14, ca14, hv, _, hi⟩ := ho14.ints
  obtain ⟨n14, hn⟩ : ∃ x, x = (ls).length := ⟨_, rfl⟩
  rw [← hn] at hv
  subst hv
  have N14 := hideC hn
  have I14 := hideC hi
  clear hn hi ho14
  have HPI := hideC (fun (W : World) (h : Ints W W.heap.size a13 lp) (h2 : Ints W W.heap.size a14 ls) => Bi.put_impl lp ls a13 a14 ca13 ca14 W h h2 (by omega) (by omega))
  rw [← N13.out, ← N14.out] at HPI
  go_wp2_with fail
  refine (HPI.out w7 I13.out I14.out).mono ?_
  rintro e w8 ⟨rfl, hb8⟩
  have R0_ := hideC (row_keep R0.out hb8)
  have R1_ := hideC (row_keep R1.out hb8)
  have BW_ := hideC (low_keep BW.out hb8)
  have I5_ := hideC (ints_keep I5.out hb8)
  have I6_ := hideC (ints_keep I6.out hb8)
  have I7_ := hideC (ints_keep I7.out hb8)
  have I13_ := hideC (ints_keep I13.out hb8)
  have I14_ := hideC (ints_keep I14.out hb8)
  clear R0
  clear R1
  clear BW
  clear I5
  clear I6
  clear I7
  clear I13
  clear I14
  have R0 := R0_
  clear R0_
  have R1 := R1_
  clear R1_
  have BW := BW_
  clear BW_
  have I5 := I5_
  clear I5_
  have I6 := I6_
  clear I6_
  have I7 := I7_
  clear I7_
  have I13 := I13_
  clear I13_
  have I14 := I14_
  clear I14_
  clear hb8
  obtain ⟨tt, htt⟩ : ∃ x, x = putR lp ls := ⟨_, rfl⟩
  rw [← htt]
  have HTT := hideC htt
  clear htt
  go_wp2_with fail
  refine (drawGet_any a0 len0 cap0 w8 hl0 R0.out).mono ?_
  rintro e w9 ⟨v16, lg, gb, gm, rfl, ho16, hl16, hgb, hb9⟩
  have R0_ := hideC (row_keep R0.out hb9)
  have R1_ := hideC (row_keep R1.out hb9)
  have BW_ := hideC (low_keep BW.out hb9)
  have I5_ := hideC (ints_keep I5.out hb9)
  have I6_ := hideC (ints_keep I6.out hb9)
  have I7_ := hideC (ints_keep I7.out hb9)
  have I13_ := hideC (ints_keep I13.out hb9)
  have I14_ := hideC (ints_keep I14.out hb9)
  clear R0
  clear R1
  clear BW
  clear I5
  clear I6
  clear I7
  clear I13
  clear I14
  have R0 := R0_
  clear R0_
  have R1 := R1_
  clear R1_
  have BW := BW_
  clear BW_
  have I5 := I5_
  clear I5_
  have I6 := I6_
  clear I6_
  have I7 := I7_
  clear I7_
  have I13 := I13_
  clear I13_
  have I14 := I14_
  clear I14_
  clear hb9
  obtain ⟨a16, ca16, hv, _, hi⟩ := ho16.ints
  obtain ⟨n16, hn⟩ : ∃ x, x = (lg).length := ⟨_, rfl⟩
  rw [← hn] at hv
  subst hv
  have N16 := hideC hn
  have I16 := hideC hi
  clear hn hi ho16
  have HGI := hideC (fun (W : World) (h : Ints W W.heap.size a16 lg) => Bi.get_impl lg gb gm a16 ca16 W h (by omega) (by omega))
  rw [← N16.out] at HGI
  obtain ⟨xl, xa, xc, hx⟩ : ∃ x y z, getR lg gb gm = (x, y, z) := ⟨_, _, _, rfl⟩
  have HX := hideC hx
  rw [hx] at HGI
  clear hx
  go_wp2_with fail
  refine (HGI.out w9 I16.out).mono ?_
  rintro e w10 ⟨v19, rfl, ho19, hb10⟩
  have R0_ := hideC (row_keep R0.out hb10)
  have R1_ := hideC (row_keep R1.out hb10)
  have BW_ := hideC (low_keep BW.out hb10)
  have I5_ := hideC (ints_keep I5.out hb10)
  have I6_ := hideC (ints_keep I6.out hb10)
  have I7_ := hideC (ints_keep I7.out hb10)
  have I13_ := hideC (ints_keep I13.out hb10)
  have I14_ := hideC (ints_keep I14.out hb10)
  have I16_ := hideC (ints_keep I16.out hb10)
  clear R0
  clear R1
  clear BW
  clear I5
  clear I6
  clear I7
  clear I13
  clear I14
  clear I16
  have R0 := R0_
  clear R0_
  have R1 := R1_
  clear R1_
  have BW := BW_
  clear BW_
  have I5 := I5_
  clear I5_
  have I6 := I6_
  clear I6_
  have I7 := I7_
  clear I7_
  have I13 := I13_
  clear I13_
  have I14 := I14_
  clear I14_
  have I16 := I16_
  clear I16_
  clear hb10
  obtain ⟨a19, ca19, hv, hi⟩ := In.OwnIn.ints ho19
  obtain ⟨n19, hn⟩ : ∃ x, x = (xl).length := ⟨_, rfl⟩
  rw [← hn] at hv
  subst hv
  have N19 := hideC hn
  have I19 := hideC hi
  clear hn hi ho19
  go_wp2_with fail
  have hb11 : Below w10.heap.size w10 (w10.alloc (.cells #[.slice a19 n19 ca19, .int .i64 xa, .int .i64 xc] 37)) := (Below.refl _ _).alloc (Nat.le_refl _) _
  have X : Hid ((w10.alloc (.cells #[.slice a19 n19 ca19, .int .i64 xa, .int .i64 xc] 37)).heap[w10.heap.size]? = some (.cells #[.slice a19 n19 ca19, .int .i64 xa, .int .i64 xc] 37 (0, 0))) := heap_alloc_new w10 _
  generalize hww : w10.alloc (.cells #[.slice a19 n19 ca19, .int .i64 xa, .int .i64 xc] 37) = w11 at hb11 X ⊢
  clear hww
  have R0_ := hideC (row_keep R0.out hb11)
  have R1_ := hideC (row_keep R1.out hb11)
  have BW_ := hideC (low_keep BW.out hb11)
  have I5_ := hideC (ints_keep I5.out hb11)
  have I6_ := hideC (ints_keep I6.out hb11)
  have I7_ := hideC (ints_keep I7.out hb11)
  have I13_ := hideC (ints_keep I13.out hb11)
  have I14_ := hideC (ints_keep I14.out hb11)
  have I16_ := hideC (ints_keep I16.out hb11)
  have I19_ := hideC (ints_keep I19.out hb11)
  clear R0
  clear R1
  clear BW
  clear I5
  clear I6
  clear I7
  clear I13
  clear I14
  clear I16
  clear I19
  have R0 := R0_
  clear R0_
  have R1 := R1_
  clear R1_
  have BW := BW_
  clear BW_
  have I5 := I5_
  clear I5_
  have I6 := I6_
  clear I6_
  have I7 := I7_
  clear I7_
  have I13 := I13_
  clear I13_
  have I14 := I14_
  clear I14_
  have I16 := I16_
  clear I16_
  have I19 := I19_
  clear I19_
  generalize w10.heap.size = gx at X ⊢
  clear hb11
  have HGS := hideC (fun (W : World) (h : Ints W W.heap.size a16 lg) => Bi.get_spec lg gb gm a16 ca16 W h (by omega) (by omega))
  rw [← N16.out, HX.out] at HGS
  refine (HGS.out w11 I16.out).mono ?_
  rintro e w12 ⟨v20, rfl, ho20, hb12⟩
  have R0_ := hideC (row_keep R0.out hb12)
  have R1_ := hideC (row_keep R1.out hb12)
  have BW_ := hideC (low_keep BW.out hb12)
  have I5_ := hideC (ints_keep I5.out hb12)
  have I6_ := hideC (ints_keep I6.out hb12)
  have I7_ := hideC (ints_keep I7.out hb12)
  have I13_ := hideC (ints_keep I13.out hb12)
  have I14_ := hideC (ints_keep I14.out hb12)
  have I16_ := hideC (ints_keep I16.out hb12)
  have I19_ := hideC (ints_keep I19.out hb12)
  have X_ := hideC (blk_keep X.out hb12)
  clear R0
  clear R1
  clear BW
  clear I5
  clear I6
  clear I7
  clear I13
  clear I14
  clear I16
  clear I19
  clear X
  have R0 := R0_
  clear R0_
  have R1 := R1_
  clear R1_
  have BW := BW_
  clear BW_
  have I5 := I5_
  clear I5_
  have I6 := I6_
  clear I6_
  have I7 := I7_
  clear I7_
  have I13 := I13_
  clear I13_
  have I14 := I14_
  clear I14_
  have I16 := I16_
  clear I16_
  have I19 := I19_
  clear I19_
  have X := X_
  clear X_
  clear hb12
  obtain ⟨a20, ca20, hv, hi⟩ := In.OwnIn.ints ho20
  obtain ⟨n20, hn⟩ : ∃ x, x = (xl).length := ⟨_, rfl⟩
  rw [← hn] at hv
  subst hv
  have N20 := hideC hn
  have I20 := hideC hi
  clear hn hi ho20
  obtain rfl : n20 = n19 := N20.out.trans N19.out.symm
  clear N20
  go_wp2_with fail
  have hb13 : Below w12.heap.size w12 (w12.alloc (.cells #[.slice a20 n20 ca20, .int .i64 xa, .int .i64 xc] 37)) := (Below.refl _ _).alloc (Nat.le_refl _) _
  have Y : Hid ((w12.alloc (.cells #[.slice a20 n20 ca20, .int .i64 xa, .int .i64 xc] 37)).heap[w12.heap.size]? = some (.cells #[.slice a20 n20 ca20, .int .i64 xa, .int .i64 xc] 37 (0, 0))) := heap_alloc_new w12 _
  generalize hww : w12.alloc (.cells #[.slice a20 n20 ca20, .int .i64 xa, .int .i64 xc] 37) = w13 at hb13 Y ⊢
  clear hww
  have R0_ := hideC (row_keep R0.out hb13)
  have R1_ := hideC (row_keep R1.out hb13)
  have BW_ := hideC (low_keep BW.out hb13)
  have I5_ := hideC (ints_keep I5.out hb13)
  have I6_ := hideC (ints_keep I6.out hb13)
  have I7_ := hideC (ints_keep I7.out hb13)
  have I13_ := hideC (ints_keep I13.out hb13)
  have I14_ := hideC (ints_keep I14.out hb13)
  have I16_ := hideC (ints_keep I16.out hb13)
  have I19_ := hideC (ints_keep I19.out hb13)
  have X_ := hideC (blk_keep X.out hb13)
  have I20_ := hideC (ints_keep I20.out hb13)
  clear R0
  clear R1
  clear BW
  clear I5
  clear I6
  clear I7
  clear I13
  clear I14
  clear I16
  clear I19
  clear X
  clear I20
  have R0 := R0_
  clear R0_
  have R1 := R1_
  clear R1_
  have BW := BW_
  clear BW_
  have I5 := I5_
  clear I5_
  have I6 := I6_
  clear I6_
  have I7 := I7_
  clear I7_
  have I13 := I13_
  clear I13_
  have I14 := I14_
  clear I14_
  have I16 := I16_
  clear I16_
  have I19 := I19_
  clear I19_
  have X := X_
  clear X_
  have I20 := I20_
  clear I20_
  generalize w12.heap.size = gy at Y ⊢
  clear hb13
  refine (pack_impl bb w13 (by omega)).mono ?_
  rintro e wz ⟨rfl, hb14⟩
  have R0_ := hideC (row_keep R0.out hb14)
  have R1_ := hideC (row_keep R1.out hb14)
  have BW_ := hideC (low_keep BW.out hb14)
  have I5_ := hideC (ints_keep I5.out hb14)
  have I6_ := hideC (ints_keep I6.out hb14)
  have I7_ := hideC (ints_keep I7.out hb14)
  have I13_ := hideC (ints_keep I13.out hb14)
  have I14_ := hideC (ints_keep I14.out hb14)
  have I16_ := hideC (ints_keep I16.out hb14)
  have I19_ := hideC (ints_keep I19.out hb14)
  have X_ := hideC (blk_keep X.out hb14)
  have I20_ := hideC (ints_keep I20.out hb14)
  have Y_ := hideC (blk_keep Y.out hb14)
  clear R0
  clear R1
  clear BW
  clear I5
  clear I6
  clear I7
  clear I13
  clear I14
  clear I16
  clear I19
  clear X
  clear I20
  clear Y
  have R0 := R0_
  clear R0_
  have R1 := R1_
  clear R1_
  have BW := BW_
  clear BW_
  have I5 := I5_
  clear I5_
  have I6 := I6_
  clear I6_
  have I7 := I7_
  clear I7_
  have I13 := I13_
  clear I13_
  have I14 := I14_
  clear I14_
  have I16 := I16_
  clear I16_
  have I19 := I19_
  clear I19_
  have X := X_
  clear X_
  have I20 := I20_
  clear I20_
  have Y := Y_
  clear Y_
  clear hb14
  obtain ⟨pb, hpb⟩ : ∃ x, x = packR bb := ⟨_, rfl⟩
  rw [← hpb]
  have HPB := hideC hpb
  clear hpb
  have e5 : n5 ≤ 20 := by rw [N5.out]; exact hl5
  have e6 : n6 ≤ 20 := by rw [N6.out]; exact Nat.le_trans (lensR_len _) hl5
  have e7 : n7 ≤ 20 := by rw [N7.out]; exact hl7
  have e13 : n13 ≤ 20 := by rw [N13.out]; exact hl13
  have e14 : n14 ≤ 12 := by rw [N14.out]; exact hl14
  have e16 : n16 ≤ 20 := by rw [N16.out]; exact hl16
  have e20 : n20 ≤ 400 := by
    have := getR_len lg gb gm
    rw [HX.out] at this
    rw [N19.out]
    exact this
  have HEM := hideC (pack_back (t := bb) (by omega))
  rw [← HPB.out] at HEM
  clear HLI HPI HGI HGS R0 R1 hl0 hl1 DB
  have C1 : Hid (∀ W, Below wz.heap.size wz W → Calls Try.prog 21 #[.slice a5 n5 ca5] W fun e w' => ∃ v, e = .returned v ∧ OwnI w' W.heap.size v (lensR lc) ∧ Below W.heap.size W w') := fun W h => by
    have := lengths_spec lc a5 ca5 W.heap.size W (ints_keep I5.out h) (Nat.le_refl _) (by omega)
    rw [← N5.out] at this
    exact this
  have L1 : Hid (∀ W b v, Below wz.heap.size wz W → OwnI W b v (lensR lc) → Calls Try.prog 20 #[.slice a6 n6 ca6, v] W fun e w' => e = .returned (.bool true) ∧ Below W.heap.size W w') := fun W b v h1 h2 => same_own N6.out (ints_keep I6.out h1) h2 (by omega)
  obtain ⟨wb, hwb⟩ : ∃ x, x = whole lw := ⟨_, rfl⟩
  have C2 : Hid (∀ W, Below wz.heap.size wz W → Calls Try.prog 22 #[.slice a7 n7 ca7] W fun e w' => e = .returned (.bool wb) ∧ Below W.heap.size W w') := fun W h => by
    have := whole_impl lw a7 ca7 W.heap.size W (ints_keep I7.out h) (by omega)
    rw [← N7.out, ← hwb] at this
    exact this.mono fun e w' q => ⟨q.1, q.2 ▸ Below.refl _ _⟩
  have C3 : Hid (∀ W, Below wz.heap.size wz W → Calls Try.prog 23 #[.slice a7 n7 ca7] W fun e w' => e = .returned (.bool wb) ∧ Below W.heap.size W w') := fun W h => by
    have := whole_spec lw a7 ca7 W.heap.size W (ints_keep I7.out h) (by omega)
    rw [← N7.out, ← hwb] at this
    exact this.mono fun e w' q => ⟨q.1, q.2 ▸ Below.refl _ _⟩
  have C4 : Hid (∀ W, Below wz.heap.size wz W → Calls Try.prog 25 #[.slice a7 n7 ca7] W fun e w' => ∃ v, e = .returned v ∧ St.OwnIn w' W.heap.size w'.heap.size v (codesR lw) ∧ Below W.heap.size W w') := fun W h => by
    have := codesOf_impl lw a7 ca7 W.heap.size W (ints_keep I7.out h) (Nat.le_refl _) (by omega)
    rw [← N7.out] at this
    exact this
  have C5 : Hid (∀ W, Below wz.heap.size wz W → Calls Try.prog 26 #[.slice a7 n7 ca7] W fun e w' => ∃ v, e = .returned v ∧ St.OwnIn w' W.heap.size w'.heap.size v (codesR lw) ∧ Below W.heap.size W w') := fun W h => by
    have := codesOf_spec lw a7 ca7 W.heap.size W (ints_keep I7.out h) (Nat.le_refl _) (by omega)
    rw [← N7.out] at this
    exact this
  have L5 : Hid (∀ W lo hi lo' hi' u v, St.OwnIn W lo hi u (codesR lw) → St.OwnIn W lo' hi' v (codesR lw) → Calls Try.prog 24 #[u, v] W fun e w' => e = .returned (.bool true) ∧ Below W.heap.size W w') := fun W lo hi lo' hi' u v h1 h2 => same_texts h1 h2 (codesR_len _ (by omega))
  obtain ⟨bs, hbs⟩ : ∃ x, x = bitsR bn bwd := ⟨_, rfl⟩
  have C6 : Hid (∀ W, Calls Try.prog 27 #[.int .i64 bn, .int .i64 bwd] W fun e w' => e = .returned (.string bs) ∧ Below W.heap.size W w') := fun W => by rw [hbs]; exact bitsOf_impl bn bwd W
  have C7 : Hid (∀ W, Calls Try.prog 28 #[.int .i64 bn, .int .i64 bwd] W fun e w' => e = .returned (.string bs) ∧ Below W.heap.size W w') := fun W => by rw [hbs]; exact bitsOf_spec bn bwd W
  have C8 : Hid (∀ W, Calls Try.prog 29 #[.string bb] W fun e w' => e = .returned (.string pb) ∧ Below W.heap.size W w') := fun W => by rw [HPB.out]; exact pack_spec bb W (by omega)
  obtain ⟨os, hos⟩ : ∃ x, x = openR ob om := ⟨_, rfl⟩
  have C9 : Hid (∀ W, Calls Try.prog 30 #[.string ob, .int .i64 om] W fun e w' => e = .returned (.string os) ∧ Below W.heap.size W w') := fun W => by rw [hos]; exact open_impl ob om W (by omega)
  have C10 : Hid (∀ W, Calls Try.prog 31 #[.string ob, .int .i64 om] W fun e w' => e = .returned (.string os) ∧ Below W.heap.size W w') := fun W => by rw [hos]; exact open_spec ob om W (by omega)
  have C11 : Hid (∀ W, Below wz.heap.size wz W → Calls Try.prog 32 #[.slice a13 n13 ca13, .slice a14 n14 ca14] W fun e w' => e = .returned (.string tt) ∧ Below W.heap.size W w') := fun W h => by
    have := Bi.put_spec lp ls a13 a14 ca13 ca14 W (ints_keep I13.out h) (ints_keep I14.out h) (by omega) (by omega)
    rw [← N13.out, ← N14.out, ← HTT.out] at this
    exact this
  have L9 : Hid (∀ W, Below wz.heap.size wz W → Calls Try.prog 20 #[.slice a19 n20 ca19, .slice a20 n20 ca20] W fun e w' => e = .returned (.bool true) ∧ Below W.heap.size W w') := fun W h => same_rows N19.out (ints_keep I19.out h) (ints_keep I20.out h) (by omega)
  have CXY : Hid (∀ W, Below wz.heap.size wz W → (W.cell? ⟨gx, 0, none⟩ = some (.slice a19 n20 ca19) ∧ W.cell? ⟨gx, 1, none⟩ = some (.int .i64 xa) ∧ W.cell? ⟨gx, 2, none⟩ = some (.int .i64 xc)) ∧ W.cell? ⟨gy, 0, none⟩ = some (.slice a20 n20 ca20) ∧ W.cell? ⟨gy, 1, none⟩ = some (.int .i64 xa) ∧ W.cell? ⟨gy, 2, none⟩ = some (.int .i64 xc)) := fun W h => ⟨three (blk_keep X.out h), three (blk_keep Y.out h)⟩
  have OPB : Hid (∀ W, pb.toList.isEmpty = false → Calls Try.prog 30 #[.string pb, .int .i64 bb.size] W fun e w' => e = .returned (.string bb) ∧ Below W.heap.size W w') := fun W h => by
    have := open_impl pb bb.size W (by have := (HEM.out h).2; omega)
    rw [(HEM.out h).1] at this
    exact this
  have HROW : Hid (0 < n6 → _) := fun h => code_rows (wz := wz) N5.out N6.out e5 I5.out I6.out h
  have CGB : Hid (∀ W, Below wz.heap.size wz W → tt.toList.isEmpty = true → Calls Try.prog 17 #[.slice a13 n13 ca13, .string tt, .int .i64 n14] W fun e w' => ∃ v q1 q2 q3, e = .returned (.agg #[v, .int .i64 q1, .int .i64 q2]) ∧ In.OwnIn w' W.heap.size w'.heap.size v q3 ∧ Below W.heap.size W w') := fun W h _ => by
    have hz := putR_le lp ls
    rw [← HTT.out] at hz
    have := Bi.get_impl lp tt n14 a13 ca13 W (ints_keep I13.out h) (by omega) (by omega)
    rw [← N13.out] at this
    exact this.mono fun e w' ⟨v, q1, q2, q3⟩ => ⟨v, _, _, _, q1, q2, q3⟩
  have CGN : Hid (∀ W, Below wz.heap.size wz W → tt.toList.isEmpty = false → Calls Try.prog 17 #[.slice a13 n13 ca13, .string tt, .int .i64 n14] W fun e w' => ∃ v, e = .returned (.agg #[v, .int .i64 tt.size, .int .i64 0]) ∧ In.OwnIn w' W.heap.size w'.heap.size v ls ∧ Below W.heap.size W w') := fun W h hne => by
    have hz := putR_le lp ls
    rw [← HTT.out] at hz
    have := Bi.get_impl lp tt n14 a13 ca13 W (ints_keep I13.out h) (by omega) (by omega)
    rw [← N13.out, N14.out, put_back HTT.out hne] at this
    rw [N14.out]
    exact this
  have LGB : Hid (∀ W a c, Below wz.heap.size wz W → Ints W W.heap.size a ls → Calls Try.prog 20 #[.slice a n14 c, .slice a14 n14 ca14] W fun e w' => e = .returned (.bool true) ∧ Below W.heap.size W w') := fun W a c h1 h2 => same_rows N14.out h2 (ints_keep I14.out h1) (by omega)
  obtain ⟨cN, hcN⟩ : ∃ x, x = nats lc := ⟨_, rfl⟩
  rw [← hcN] at HROW
  have HN14 : Hid (n14 = ls.length) := N14.out
  clear X Y hcN hwb hbs hos HEM I5 I6 I7 I13 I14 I16 I19 I20 N5 N6 N7 N13 N14 N16 N19 HX HTT HPB
  have bx1 : (xa != xa) = false := by simp
  have bx2 : (xc != xc) = false := by simp
  have bx3 : (wb != wb) = false := by simp
  go_upto_region 15 with fail
  go_cut [149] from 77 to 148 (fun s149 wx => s149 = .bool false ∧ Below wz.heap.size wz wx)
  case first =>
    have K0 : Hid (Below wz.heap.size wz wz) := Below.refl _ _
    go_wp2_with fail
    refine (C1.out _ K0.out).mono ?_
    rintro e u1 ⟨v1, rfl, ho1, hb1⟩
    have K1 := hideC (low_keep K0.out hb1)
    have O1 := hideC ho1
    clear ho1
    clear hb1
    go_wp2_with fail
    refine (L1.out _ _ _ K1.out O1.out).mono ?_
    rintro e u2 ⟨rfl, hb2⟩
    have K2 := hideC (low_keep K1.out hb2)
    clear O1
    clear hb2
    go_wp2_with fail
    refine (C2.out _ K2.out).mono ?_
    rintro e u3 ⟨rfl, hb3⟩
    have K3 := hideC (low_keep K2.out hb3)
    clear hb3
    go_wp2_with fail
    refine (C3.out _ K3.out).mono ?_
    rintro e u4 ⟨rfl, hb4⟩
    have K4 := hideC (low_keep K3.out hb4)
    clear hb4
    go_wp2_with fail
    refine (C4.out _ K4.out).mono ?_
    rintro e u5 ⟨v5, rfl, ho5, hb5⟩
    have K5 := hideC (low_keep K4.out hb5)
    have O5 := hideC ho5
    clear ho5
    clear hb5
    go_wp2_with fail
    refine (C5.out _ K5.out).mono ?_
    rintro e u6 ⟨v6, rfl, ho6, hb6⟩
    have K6 := hideC (low_keep K5.out hb6)
    have O5b := hideC (O5.out.below hb6 (Nat.le_refl _))
    have O6 := hideC ho6
    clear ho6 O5
    clear hb6
    go_wp2_with fail
    refine (L5.out _ _ _ _ _ _ _ O5b.out O6.out).mono ?_
    rintro e u7 ⟨rfl, hb7⟩
    have K7 := hideC (low_keep K6.out hb7)
    clear O5b O6
    clear hb7
    go_wp2_with fail
    refine (C6.out _).mono ?_
    rintro e u8 ⟨rfl, hb8⟩
    have K8 := hideC (low_keep K7.out hb8)
    clear hb8
    go_wp2_with fail
    refine (C7.out _).mono ?_
    rintro e u9 ⟨rfl, hb9⟩
    have K9 := hideC (low_keep K8.out hb9)
    clear hb9
    go_wp2_with fail
    refine (C8.out _).mono ?_
    rintro e u10 ⟨rfl, hb10⟩
    have K10 := hideC (low_keep K9.out hb10)
    clear hb10
    go_wp2_with fail
    refine (C9.out _).mono ?_
    rintro e u11 ⟨rfl, hb11⟩
    have K11 := hideC (low_keep K10.out hb11)
    clear hb11
    go_wp2_with fail
    refine (C10.out _).mono ?_
    rintro e u12 ⟨rfl, hb12⟩
    have K12 := hideC (low_keep K11.out hb12)
    clear hb12
    go_wp2_with fail
    refine (C11.out _ K12.out).mono ?_
    rintro e u13 ⟨rfl, hb13⟩
    have K13 := hideC (low_keep K12.out hb13)
    obtain ⟨⟨cx0, cx1, cx2⟩, cy0, cy1, cy2⟩ := CXY.out _ K13.out
    clear hb13
    go_wp2_with fail
    refine (L9.out _ K13.out).mono ?_
    rintro e u14 ⟨rfl, hb14⟩
    have K14 := hideC (low_keep K13.out hb14)
    clear hb14
    go_wp2_with fail
    go_meet
    exact ⟨rfl, K14.out⟩
  case rest =>
    obtain ⟨rfl, hbc⟩ := hcut
    have KC := hideC hbc
    clear hbc C1 L1 C2 C3 C4 C5 L5 C6 C7 C8 C9 C10 C11 L9 CXY bx1 bx2 bx3
    go_upto_region 17 with fail
    go_cut [159] from 150 to 158 (fun s159 wx => s159 = .bool false ∧ Below wz.heap.size wz wx)
    case first =>
      cases hpe : pb.toList.isEmpty with
      | true =>
        go_wp2_with fail
        go_meet
        exact ⟨rfl, KC.out⟩
      | false =>
        go_wp2_with fail
        refine (OPB.out _ hpe).mono ?_
        rintro e w70 ⟨rfl, hb70⟩
        have K70 := hideC (low_keep KC.out hb70)
        clear hb70
        go_wp2_with fail
        go_meet
        exact ⟨rfl, K70.out⟩
    case rest =>
      obtain ⟨rfl, hbc⟩ := hcut
      have KD := hideC hbc
      clear hbc KC OPB
      go_wp2_with fail
      go_loopw [22, 23] (fun sv iv wr => ∃ i q : Nat, sv = .int .i64 q ∧ iv = .int .i64 i ∧ q = (cN.take i).sum ∧ q ≤ 10000 * i ∧ i ≤ n6 ∧ Below wz.heap.size wz wr) (fun _ iv _ => n6 - (intOf iv).toNat)
      case atStart => exact ⟨0, 0, rfl, rfl, by simp, by omega, by omega, KD.out⟩
      case round =>
        obtain ⟨i, q, rfl, rfl, hq, hqb, hi, hbw⟩ := hrel
        have KW := hideC hbw
        have HQ := hideC hq
        clear hbw hq
        by_cases hlt : i < n6
        · obtain ⟨rfl, b, off, b', off', rfl, rfl, hcl, hcb, hc⟩ := HROW.out (by omega)
          have c1 := (hc wr KW.out i hlt).1
          have hx1 := hcb i
          have HST := hideC (sum_take cN i)
          generalize hcx : cN.getD i 0 = cx at c1 hx1 HST
          have hin : (i : Int) < (n6 : Int) := by omega
          clear hc hcb hcx
          go_wp2_with fail
          go_roundw
          case rel => exact ⟨i + 1, q + cx, by go_num, by go_num, by rw [HST.out, ← HQ.out], by omega, by omega, KW.out⟩
          case measure => simp [intOf]; omega
        · have hlt' : ¬ (i : Int) < (n6 : Int) := by omega
          have hin : i = n6 := by omega
          have HMO : Hid (∀ x y, x < n6 → y < n6 → q < 300 → cN.getD y 0 < cN.getD x 0 → 0 < cN.getD y 0 → dep (lenOf cN) x ≤ dep (lenOf cN) y) := fun x y hx hy h3 h4 h5 => by
            obtain ⟨_, b, off, b', off', _, _, hcl, _, _⟩ := HROW.out (by omega)
            have : (cN.take i).sum = cN.sum := by rw [List.take_of_length_le (by omega)]
            exact Hf.lenOf_mono cN (by rw [← this, ← HQ.out]; exact h3) x y (by omega) (by omega) h4 h5
          clear HQ KD hin
          go_wp2_with fail
          go_loopw [24, 25] (fun iv _ wr2 => ∃ i : Nat, iv = .int .i64 i ∧ i ≤ n6 ∧ Below wz.heap.size wz wr2) (fun iv _ _ => n6 - (intOf iv).toNat)
          case atStart => exact ⟨0, rfl, by omega, KW.out⟩
          case round =>
            obtain ⟨x, rfl, hx, hbw2⟩ := hrel
            have KX := hideC hbw2
            clear hbw2
            by_cases hxn : x < n6
            · have hxi : (x : Int) < (n6 : Int) := by omega
              by_cases h3 : q < 300
              · have h3i : (q : Int) < 300 := by omega
                go_wp2_with fail
                go_loopw [25] (fun jv wr3 => ∃ j : Nat, jv = .int .i64 j ∧ j ≤ n6 ∧ Below wz.heap.size wz wr3) (fun jv _ => n6 - (intOf jv).toNat)
                case atStart => exact ⟨0, rfl, by omega, KX.out⟩
                case round =>
                  obtain ⟨y, rfl, hy, hbw3⟩ := hrel
                  have KY := hideC hbw3
                  clear hbw3
                  by_cases hyn : y < n6
                  · have HM := hideC (HMO.out x y hxn hyn h3)
                    obtain ⟨rfl, b, off, b', off', rfl, rfl, hcl, hcb, hc⟩ := HROW.out (by omega)
                    obtain ⟨c1, c2⟩ := hc wr KY.out x hxn
                    obtain ⟨c3, c4⟩ := hc wr KY.out y hyn
                    have hyi : (y : Int) < (n6 : Int) := by omega
                    clear hc hcb hcl
                    generalize cN.getD x 0 = cx at c1 HM
                    generalize cN.getD y 0 = cy at c3 HM
                    generalize dep (lenOf cN) x = lx at c2 HM
                    generalize dep (lenOf cN) y = ly at c4 HM
                    by_cases h1 : cy < cx
                    · have h1i : (cy : Int) < (cx : Int) := by omega
                      have d1 : decide ((cy : Int) < (cx : Int)) = true := decide_eq_true h1i
                      by_cases h2 : 0 < cy
                      · have h2i : (0 : Int) < (cy : Int) := by omega
                        have d2 : decide ((0 : Int) < (cy : Int)) = true := decide_eq_true h2i
                        have h4 := HM.out h1 h2
                        have h4i : ¬ (ly : Int) < (lx : Int) := by omega
                        have d4 : decide ((ly : Int) < (lx : Int)) = false := decide_eq_false h4i
                        go_wp2_with fail
                        go_quiet (fail)
                        go_wp2_with fail
                        go_roundw
                        case rel => exact ⟨y + 1, by go_num, by omega, below_drewN KY.out _⟩
                        case measure => simp [intOf]; omega
                      · have h2i : ¬ (0 : Int) < (cy : Int) := by omega
                        have d2 : decide ((0 : Int) < (cy : Int)) = false := decide_eq_false h2i
                        go_wp2_with fail
                        go_quiet (fail)
                        go_wp2_with fail
                        go_roundw
                        case rel => exact ⟨y + 1, by go_num, by omega, below_drewN KY.out _⟩
                        case measure => simp [intOf]; omega
                    · have h1i : ¬ (cy : Int) < (cx : Int) := by omega
                      have d1 : decide ((cy : Int) < (cx : Int)) = false := decide_eq_false h1i
                      go_wp2_with fail
                      go_quiet (fail)
                      go_wp2_with fail
                      go_roundw
                      case rel => exact ⟨y + 1, by go_num, by omega, below_drewN KY.out _⟩
                      case measure => simp [intOf]; omega
                  · have hyi : ¬ (y : Int) < (n6 : Int) := by omega
                    go_wp2_with fail
                    go_roundw
                    case rel => exact ⟨x + 1, by go_num, by omega, KY.out⟩
                    case measure => simp [intOf]; omega
              · have h3i : ¬ (q : Int) < 300 := by omega
                clear HROW HMO
                cases hte : tt.toList.isEmpty with
                | true =>
                  go_wp2_with fail
                  refine (CGB.out _ KX.out hte).mono ?_
                  rintro e w80 ⟨v80, q1, q2, q3, rfl, ho80, hb80⟩
                  have K80 := hideC (low_keep KX.out hb80)
                  obtain ⟨a80, c80, rfl, _⟩ := In.OwnIn.ints ho80
                  clear hb80 ho80
                  go_wp2_with fail
                  go_ret
                  exact ⟨rfl, low_keep BW.out (K80.out.alloc K80.out.size _)⟩
                | false =>
                  go_wp2_with fail
                  refine (CGN.out _ KX.out hte).mono ?_
                  rintro e w80 ⟨v80, rfl, ho80, hb80⟩
                  have K80 := hideC (low_keep KX.out hb80)
                  obtain ⟨a80, c80, hv80, hi80⟩ := In.OwnIn.ints ho80
                  rw [← HN14.out] at hv80
                  subst hv80
                  have I80 := hideC hi80
                  clear hb80 ho80 hi80
                  go_wp2_with fail
                  have hb81 : Below w80.heap.size w80 (w80.alloc (.cells #[.slice a80 n14 c80, .int .i64 tt.size, .int .i64 0] 37)) := (Below.refl _ _).alloc (Nat.le_refl _) _
                  have I81 := hideC (ints_keep I80.out hb81)
                  have K81 := hideC (low_keep K80.out hb81)
                  clear hb81
                  refine (LGB.out _ _ _ K81.out I81.out).mono ?_
                  rintro e w82 ⟨rfl, hb82⟩
                  have K82 := hideC (low_keep K81.out hb82)
                  have cb : Hid (∀ W, Below (w80.alloc (.cells #[.slice a80 n14 c80, .int .i64 tt.size, .int .i64 0] 37)).heap.size (w80.alloc (.cells #[.slice a80 n14 c80, .int .i64 tt.size, .int .i64 0] 37)) W → W.cell? ⟨w80.heap.size, 1, none⟩ = some (.int .i64 tt.size)) := fun W h => (three (blk_keep (heap_alloc_new w80 _) h)).2.1
                  have cb1 := cb.out _ hb82
                  clear hb82 cb
                  go_wp2_with fail
                  go_ret
                  exact ⟨rfl, low_keep BW.out K82.out⟩
            · have hxi : ¬ (x : Int) < (n6 : Int) := by omega
              clear HROW HMO
              cases hte : tt.toList.isEmpty with
              | true =>
                go_wp2_with fail
                refine (CGB.out _ KX.out hte).mono ?_
                rintro e w80 ⟨v80, q1, q2, q3, rfl, ho80, hb80⟩
                have K80 := hideC (low_keep KX.out hb80)
                obtain ⟨a80, c80, rfl, _⟩ := In.OwnIn.ints ho80
                clear hb80 ho80
                go_wp2_with fail
                go_ret
                exact ⟨rfl, low_keep BW.out (K80.out.alloc K80.out.size _)⟩
              | false =>
                go_wp2_with fail
                refine (CGN.out _ KX.out hte).mono ?_
                rintro e w80 ⟨v80, rfl, ho80, hb80⟩
                have K80 := hideC (low_keep KX.out hb80)
                obtain ⟨a80, c80, hv80, hi80⟩ := In.OwnIn.ints ho80
                rw [← HN14.out] at hv80
                subst hv80
                have I80 := hideC hi80
                clear hb80 ho80 hi80
                go_wp2_with fail
                have hb81 : Below w80.heap.size w80 (w80.alloc (.cells #[.slice a80 n14 c80, .int .i64 tt.size, .int .i64 0] 37)) := (Below.refl _ _).alloc (Nat.le_refl _) _
                have I81 := hideC (ints_keep I80.out hb81)
                have K81 := hideC (low_keep K80.out hb81)
                clear hb81
                refine (LGB.out _ _ _ K81.out I81.out).mono ?_
                rintro e w82 ⟨rfl, hb82⟩
                have K82 := hideC (low_keep K81.out hb82)
                have cb : Hid (∀ W, Below (w80.alloc (.cells #[.slice a80 n14 c80, .int .i64 tt.size, .int .i64 0] 37)).heap.size (w80.alloc (.cells #[.slice a80 n14 c80, .int .i64 tt.size, .int .i64 0] 37)) W → W.cell? ⟨w80.heap.size, 1, none⟩ = some (.int .i64 tt.size)) := fun W h => (three (blk_keep (heap_alloc_new w80 _) h)).2.1
                have cb1 := cb.out _ hb82
                clear hb82 cb
                go_wp2_with fail
                go_ret
                exact ⟨rfl, low_keep BW.out K82.out⟩
end Go.Proofs.Ytmkpakhpjgocjaa.fnCode
