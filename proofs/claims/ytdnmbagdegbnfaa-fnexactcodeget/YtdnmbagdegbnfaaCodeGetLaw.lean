/- The walk of the law on CodeGet. -/
import Derived.Test.YtdnmbagdegbnfaaGetTop3
namespace Go.Proofs.Ytdnmbagdegbnfaa.fnExactCodeGet
open Go.RowKit
open Go.Proofs.Ytdnmbagdegbnfaa.Bi
open Go.Proofs.Ytdnmbagdegbnfaa.In (Ints IsI OwnIn toInt_any ints_of IsNums)
open Go.Proofs.Ytdnmbagdegbnfaa.St (Aft)

theorem below2 {w w1 w2 : World} (h : Below w.heap.size w w1) (h2 : Below w1.heap.size w1 w2) : Below w.heap.size w w2 := h.trans (h2.mono h.size)
/-- a variable of the law that holds an answer -/
def OV (w : World) (g : Nat) (v : Value) (p e : Int) : Prop := w.heap[g]? = some (.cells #[v, .int .i64 p, .int .i64 e] 37 (0, 0))
theorem OV.c0 {w : World} {g : Nat} {v : Value} {p e : Int} (h : OV w g v p e) : w.cell? ⟨g, 0, none⟩ = some v := (cell_of_row w g 0 _ _ _ h).trans rfl
theorem OV.c1 {w : World} {g : Nat} {v : Value} {p e : Int} (h : OV w g v p e) : w.cell? ⟨g, 1, none⟩ = some (.int .i64 p) := (cell_of_row w g 1 _ _ _ h).trans rfl
theorem OV.c2 {w : World} {g : Nat} {v : Value} {p e : Int} (h : OV w g v p e) : w.cell? ⟨g, 2, none⟩ = some (.int .i64 e) := (cell_of_row w g 2 _ _ _ h).trans rfl
theorem OV.lt {w : World} {g : Nat} {v : Value} {p e : Int} (h : OV w g v p e) : g < w.heap.size := (Array.getElem?_eq_some_iff.1 h).1
theorem OV.below {w w' : World} {g B : Nat} {v : Value} {p e : Int} (h : OV w g v p e) (b : Below B w w') (hg : g < B) : OV w' g v p e := by unfold OV; rw [b.block g hg]; exact h
theorem OV.aft {w w' : World} {g k : Nat} {v : Value} {p e : Int} (h : OV w g v p e) (a : Aft k w w') (hg : g ≠ k) : OV w' g v p e := by unfold OV; rw [a.2.2.2.2 g h.lt hg]; exact h
theorem OV.new (w : World) (v : Value) (p e : Int) : OV (w.alloc (.cells #[v, .int .i64 p, .int .i64 e] 37)) w.heap.size v p e := heap_alloc_last w _
/-- how a walk sees an answer laid into a new variable -/
theorem laid {P : World → Prop} {w W : World} (hW : W = w) (h : P W) : P w := by rw [← hW]; exact h

set_option maxRecDepth 100000 in
set_option maxHeartbeats 2000000 in
theorem walk_in (l : List Int) (t : ByteArray) (m : Int) (a : Option Addr) (cap : Nat) (w : World) (hs : Ints w w.heap.size a l) (hn : l.length ≤ maxLen) (ht : t.size ≤ maxLen) :
    Calls Try.prog 9 #[.slice a l.length cap, .string t, .int .i64 m] w fun e w' => e = .returned (.bool true) ∧ Below w.heap.size w w' := by
  unfold maxLen at hn ht
  by_cases hbig : 1048576 < l.length
  · generalize l.length = n at hn hbig ⊢
    clear hs
    go_enter Try.func9, Try.ntmps9
    go_wp2_with fail
    go_ret
    exact ⟨rfl, Below.refl _ _⟩
  by_cases hbig2 : 1048576 < t.size
  · generalize l.length = n at hn hbig ⊢
    clear hs
    go_enter Try.func9, Try.ntmps9
    go_wp2_with fail
    go_ret
    exact ⟨rfl, Below.refl _ _⟩
  have HTo := hideB (fun W (hW : Below w.heap.size w W) => toInt_any a cap l W ((hs.below hW).mono hW.size) (by omega))
  have HI := hideB (fun (x : Option Addr) (W : World) hx => get_impl l t m x l.length W hx (by omega) (by omega))
  have HP := hideB (fun (x : Option Addr) (W : World) hx => get_spec l t m x l.length W hx (by omega) (by omega))
  have HEx := hideB (fun (W : World) (lo hi lo' hi' : Nat) (u v : Value) (h1 : OwnIn W lo hi u l) (h2 : OwnIn W lo' hi' v l) => In.eq_in h1 h2 (by omega))
  have HMx := hideB (fun (W : World) (lo hi : Nat) (v : Value) (h1 : OwnIn W lo hi v l) => In.mark_in h1 (by omega))
  have HIn := hideB (fun (W : World) (g : Nat) (h1 : IsI W g 2 l) => h1.inn l.length)
  have HQ := hideB (getR_length l t m)
  clear hs
  generalize l.length = n at hn hbig HTo HI HP HEx HMx HIn ⊢
  generalize getR l t m = gr at HI HP HQ
  obtain ⟨q, pp, ee⟩ := gr
  simp only at HI HP HQ
  have hqn : q.length ≤ 1048576 := Nat.le_trans HQ.out (by decide)
  go_enter Try.func9, Try.ntmps9
  go_wp2_with fail
  refine (HTo.out w (Below.refl _ _)).mono ?_
  rintro e w1 ⟨rfl, hi1, hb1⟩
  have S1 := hideB (hi1.ints hi1.lt)
  have B1 := hideB hb1
  clear hi1 hb1
  go_wp2_with fail
  refine (HP.out (some ⟨w.heap.size, 0, none⟩) w1 S1.out).mono ?_
  rintro e w2 ⟨v6, rfl, ho6, hb2⟩
  have V6 := hideB ho6
  have B2 := hideB (below2 B1.out hb2)
  have s2 := hb2.size
  obtain ⟨x6, c6, rfl, _⟩ := ho6.ints
  obtain ⟨ql, hql⟩ : ∃ ql, ql = q.length := ⟨_, rfl⟩
  have HQL := hideB hql
  rw [← hql] at V6 ⊢
  clear hb2 ho6 hql
  obtain ⟨W2, hW2⟩ : ∃ W2, W2 = w2.alloc (.cells #[.slice x6 ql c6, .int .i64 pp, .int .i64 ee] 37) := ⟨_, rfl⟩
  have P2 := hideB (show OV W2 w2.heap.size (.slice x6 ql c6) pp ee by rw [hW2]; exact OV.new _ _ _ _)
  have b2' : Below w2.heap.size w2 W2 := by rw [hW2]; exact (Below.refl _ _).alloc (Nat.le_refl _) _
  have V6a := hideB (V6.out.below b2' (Nat.le_refl _))
  have B2a := hideB (below2 B2.out b2')
  have s2a : w2.heap.size < W2.heap.size := P2.out.lt
  have HW2 := hideB hW2
  clear hW2 b2' V6
  go_wp2_with fail
  rw [← HW2.out]
  refine (HTo.out W2 B2a.out).mono ?_
  rintro e w3 ⟨rfl, hi3, hb3⟩
  have X3 := hideB hi3
  have V6b := hideB (V6a.out.below hb3 (by omega))
  have P3 := hideB (P2.out.below hb3 (by omega))
  have B3 := hideB (below2 B2a.out hb3)
  have z3 : W2.heap.size < w3.heap.size := hi3.lt
  clear hi3 hb3 V6a P2
  go_wp2_with fail
  refine (HI.out (some ⟨W2.heap.size, 0, none⟩) w3 (X3.out.ints X3.out.lt)).mono ?_
  rintro e w4 ⟨v8, rfl, ho8, hb4⟩
  have V8 := hideB ho8
  have X4 := hideB (HIn.out _ _ (X3.out.below hb4 X3.out.lt))
  have V6c := hideB (V6b.out.below hb4 (by omega))
  have P4 := hideB (P3.out.below hb4 (by omega))
  have B4 := hideB (below2 B3.out hb4)
  have z4 := hb4.size
  obtain ⟨x8, c8, rfl, _⟩ := ho8.ints
  rw [← HQL.out] at V8 ⊢
  clear hb4 ho8 V6b X3 P3
  obtain ⟨W4, hW4⟩ : ∃ W4, W4 = w4.alloc (.cells #[.slice x8 ql c8, .int .i64 pp, .int .i64 ee] 37) := ⟨_, rfl⟩
  have Q4 := hideB (show OV W4 w4.heap.size (.slice x8 ql c8) pp ee by rw [hW4]; exact OV.new _ _ _ _)
  have b4' : Below w4.heap.size w4 W4 := by rw [hW4]; exact (Below.refl _ _).alloc (Nat.le_refl _) _
  have V8a := hideB (V8.out.below b4' (Nat.le_refl _))
  have X4a := hideB (X4.out.below b4' (by omega))
  have V6d := hideB (V6c.out.below b4' (by omega))
  have P4a := hideB (P4.out.below b4' (by omega))
  have B4a := hideB (below2 B4.out b4')
  have s4a : w4.heap.size < W4.heap.size := Q4.out.lt
  have HW4 := hideB hW4
  have hcond := laid (P := fun W => (W.cell? ⟨w4.heap.size, 0, none⟩ = some (.slice x8 ql c8) ∧ W.cell? ⟨w4.heap.size, 1, none⟩ = some (.int .i64 pp) ∧ W.cell? ⟨w4.heap.size, 2, none⟩ = some (.int .i64 ee)) ∧ (W.cell? ⟨w2.heap.size, 0, none⟩ = some (.slice x6 ql c6) ∧ W.cell? ⟨w2.heap.size, 1, none⟩ = some (.int .i64 pp) ∧ W.cell? ⟨w2.heap.size, 2, none⟩ = some (.int .i64 ee))) hW4 ⟨⟨Q4.out.c0, Q4.out.c1, Q4.out.c2⟩, ⟨P4a.out.c0, P4a.out.c1, P4a.out.c2⟩⟩
  obtain ⟨_, i0, i1, i2⟩ := hcond
  clear hW4 b4' V8 X4 V6c P4
  go_wp2_with fail
  rw [← HW4.out]
  refine (eqN_any pp ee V8a.out V6d.out hqn (by omega) (by omega)).mono ?_
  rintro e w5 ⟨rfl, hb5⟩
  have V8b := hideB (V8a.out.below hb5 (by omega))
  have V6e := hideB (V6d.out.below hb5 (by omega))
  have X5 := hideB (X4a.out.below hb5 (by omega))
  have P5 := hideB (P4a.out.below hb5 (by omega))
  have Q5 := hideB (Q4.out.below hb5 (by omega))
  have B5 := hideB (below2 B4a.out hb5)
  have z5 := hb5.size
  clear hb5 V8a V6d X4a P4a Q4 i0 i1 i2
  go_wp2_with fail
  refine (HTo.out w5 B5.out).mono ?_
  rintro e w6 ⟨rfl, hi6, hb6⟩
  have X6 := hideB (X5.out.below hb6 (by omega))
  have Y6 := hideB (HIn.out _ _ hi6)
  have V8c := hideB (V8b.out.below hb6 (by omega))
  have V6f := hideB (V6e.out.below hb6 (by omega))
  have P6 := hideB (P5.out.below hb6 (by omega))
  have Q6 := hideB (Q5.out.below hb6 (by omega))
  have B6 := hideB (below2 B5.out hb6)
  have z6 := hb6.size
  clear hb6 hi6 V8b V6e X5 P5 Q5
  go_wp2_with fail
  refine (HEx.out _ _ _ _ _ _ _ X6.out Y6.out).mono ?_
  rintro e w7 ⟨rfl, hb7⟩
  have X7 := hideB (X6.out.below hb7 (by omega))
  have V8d := hideB (V8c.out.below hb7 (by omega))
  have V6g := hideB (V6f.out.below hb7 (by omega))
  have P7 := hideB (P6.out.below hb7 (by omega))
  have Q7 := hideB (Q6.out.below hb7 (by omega))
  have B7 := hideB (below2 B6.out hb7)
  have z7 := hb7.size
  clear hb7 X6 Y6 V8c V6f P6 Q6
  go_wp2_with fail
  refine (HMx.out _ _ _ _ X7.out).mono ?_
  rintro e w8 ⟨rfl, _, g, hg, ha8⟩
  have b2z := B2.out.size
  have V8e := hideB (V8d.out.aft ha8 (by omega) (by omega))
  have V6h := hideB (V6g.out.aft ha8 (by omega) (by omega))
  have P8 := hideB (P7.out.aft ha8 (by omega))
  have Q8 := hideB (Q7.out.aft ha8 (by omega))
  have B8 := hideB (Aft.below B7.out ha8 (by omega) B7.out.size)
  have z8 := ha8.2.2.2.1
  clear ha8 V8d V6g X7 P7 Q7
  have hpos : ¬ (1 + (n : Int)) < 0 := by omega
  have k0 := P8.out.c0
  have k1 := P8.out.c1
  have k2 := P8.out.c2
  have j0 := Q8.out.c0
  have j1 := Q8.out.c1
  have j2 := Q8.out.c2
  go_wp2_with fail
  refine (eqN_any pp ee V8e.out V6h.out hqn (by omega) (by omega)).mono ?_
  rintro e w9 ⟨rfl, hb9⟩
  have V8f := hideB (V8e.out.below hb9 (by omega))
  have V6i := hideB (V6h.out.below hb9 (by omega))
  have P9 := hideB (P8.out.below hb9 (by omega))
  have Q9 := hideB (Q8.out.below hb9 (by omega))
  have B9 := hideB (below2 B8.out hb9)
  have z9 := hb9.size
  clear hb9 V8e V6h P8 Q8 k0 k1 k2 j0 j1 j2
  have j0 := Q9.out.c0
  have j1 := Q9.out.c1
  have j2 := Q9.out.c2
  go_wp2_with fail
  refine (markN_any pp ee (in_mono (lo' := W2.heap.size) (hi' := w4.heap.size) V8f.out (by omega) (Nat.le_refl _)) hqn (by omega)).mono ?_
  rintro e w10 ⟨rfl, hm10, g', hg', ha10⟩
  have M10 := hideB hm10
  have V6j := hideB (V6i.out.aft ha10 (by omega) (by omega))
  have P10 := hideB (P9.out.aft ha10 (by omega))
  have Q10 := hideB (Q9.out.aft ha10 (by omega))
  have B10 := hideB (Aft.below B9.out ha10 (by omega) B9.out.size)
  have z10 := ha10.2.2.2.1
  rw [← HQL.out] at M10 ⊢
  clear ha10 hm10 V8f V6i P9 Q9 j0 j1 j2
  have hql2 : ql ≤ 1048576 := by rw [HQL.out]; exact hqn
  have hpos2 : ¬ (1 + (ql : Int)) < 0 := by omega
  have j0 := Q10.out.c0
  have j1 := Q10.out.c1
  have j2 := Q10.out.c2
  go_wp2_with fail
  refine (heldN_any pp ee M10.out hql2 (by omega)).mono ?_
  rintro e w11 ⟨rfl, hb11⟩
  have M11 := hideB (M10.out.below hb11 (by omega))
  have V6k := hideB (V6j.out.below hb11 (by omega))
  have P11 := hideB (P10.out.below hb11 (by omega))
  have Q11 := hideB (Q10.out.below hb11 (by omega))
  have B11 := hideB (below2 B10.out hb11)
  have z11 := hb11.size
  clear hb11 M10 V6j P10 Q10 j0 j1 j2
  go_wp2_with fail
  refine (HTo.out w11 B11.out).mono ?_
  rintro e w12 ⟨rfl, hi12, hb12⟩
  have S12 := hideB (hi12.ints hi12.lt)
  have M12 := hideB (M11.out.below hb12 (by omega))
  have V6l := hideB (V6k.out.below hb12 (by omega))
  have P12 := hideB (P11.out.below hb12 (by omega))
  have Q12 := hideB (Q11.out.below hb12 (by omega))
  have B12 := hideB (below2 B11.out hb12)
  have z12 := hb12.size
  clear hi12 hb12 M11 V6k P11 Q11
  go_wp2_with fail
  refine (HI.out (some ⟨w11.heap.size, 0, none⟩) w12 S12.out).mono ?_
  rintro e w13 ⟨v12, rfl, ho13, hb13⟩
  have V13 := hideB ho13
  have M13 := hideB (M12.out.below hb13 (by omega))
  have V6m := hideB (V6l.out.below hb13 (by omega))
  have P13 := hideB (P12.out.below hb13 (by omega))
  have Q13 := hideB (Q12.out.below hb13 (by omega))
  have B13 := hideB (below2 B12.out hb13)
  have z13 := hb13.size
  obtain ⟨x13, c13, rfl, _⟩ := ho13.ints
  rw [← HQL.out] at V13 ⊢
  clear hb13 ho13 M12 V6l P12 Q12
  obtain ⟨W13, hW13⟩ : ∃ W13, W13 = w13.alloc (.cells #[.slice x13 ql c13, .int .i64 pp, .int .i64 ee] 37) := ⟨_, rfl⟩
  have R13 := hideB (show OV W13 w13.heap.size (.slice x13 ql c13) pp ee by rw [hW13]; exact OV.new _ _ _ _)
  have b13' : Below w13.heap.size w13 W13 := by rw [hW13]; exact (Below.refl _ _).alloc (Nat.le_refl _) _
  have V13a := hideB (V13.out.below b13' (Nat.le_refl _))
  have M13a := hideB (M13.out.below b13' (by omega))
  have V6n := hideB (V6m.out.below b13' (by omega))
  have P13a := hideB (P13.out.below b13' (by omega))
  have Q13a := hideB (Q13.out.below b13' (by omega))
  have B13a := hideB (below2 B13.out b13')
  have s13a : w13.heap.size < W13.heap.size := R13.out.lt
  have HW13 := hideB hW13
  have hcond := laid (P := fun W => W.cell? ⟨w2.heap.size, 0, none⟩ = some (.slice x6 ql c6) ∧ W.cell? ⟨w2.heap.size, 1, none⟩ = some (.int .i64 pp) ∧ W.cell? ⟨w2.heap.size, 2, none⟩ = some (.int .i64 ee)) hW13 ⟨P13a.out.c0, P13a.out.c1, P13a.out.c2⟩
  obtain ⟨i0, i1, i2⟩ := hcond
  clear hW13 b13' V13 M13 V6m P13 Q13
  go_wp2_with fail
  rw [← HW13.out]
  refine (eqN_any pp ee V13a.out V6n.out hqn (by omega) (by omega)).mono ?_
  rintro e w14 ⟨rfl, hb14⟩
  have M14 := hideB (M13a.out.below hb14 (by omega))
  have Q14 := hideB (Q13a.out.below hb14 (by omega))
  have B14 := hideB (below2 B13a.out hb14)
  have z14 := hb14.size
  clear hb14 M13a V6n V13a P13a Q13a i0 i1 i2
  have j0 := Q14.out.c0
  have j1 := Q14.out.c1
  have j2 := Q14.out.c2
  go_wp2_with fail
  refine (heldN_any pp ee M14.out hql2 (by omega)).mono ?_
  rintro e w15 ⟨rfl, hb15⟩
  have B15 := hideB (below2 B14.out hb15)
  clear hb15
  go_wp2_with fail
  go_ret
  exact ⟨rfl, B15.out⟩

theorem walk (a0 : Option Addr) (len0 cap0 : Nat) (z0 : List Int) {w : World} (w0 : IsNums w a0 len0 cap0 z0) (t : ByteArray) (ht : t.size ≤ maxLen) (m : Int) (_ : (Lit.int .i64 m).wf = true) :
    Calls Try.prog 9 #[.slice a0 len0 cap0, .string t, .int .i64 m] w fun e w' => e = .returned (.bool true) ∧ Below w.heap.size w w' := by
  obtain ⟨l, rfl, hs, hm, _, _⟩ := ints_of w0
  exact walk_in l t m a0 cap0 w hs hm ht
end Go.Proofs.Ytdnmbagdegbnfaa.fnExactCodeGet
