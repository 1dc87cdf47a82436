/- The walk of the law FnExactLengthsOf. -/
import Derived.Test.YtmkpakhpjgocjaaHuSpec
import Derived.Test.YtmkpakhpjgocjaaIntIn
namespace Go.Proofs.Ytmkpakhpjgocjaa.fnExactLengthsOf
open Go.RowKit
open Go.Proofs.Ytmkpakhpjgocjaa.Hf
open Go.Proofs.Ytmkpakhpjgocjaa.Bi (hideB)
open Go.Proofs.Ytmkpakhpjgocjaa.In (Ints IsI toInt_any ints_of IsNums)
open Go.Proofs.Ytmkpakhpjgocjaa.St (Aft)

theorem below2 {w w1 w2 : World} (h : Below w.heap.size w w1) (h2 : Below w1.heap.size w1 w2) : Below w.heap.size w w2 := h.trans (h2.mono h.size)

set_option maxHeartbeats 4000000 in
theorem walk_in (l : List Int) (a : Option Addr) (cap : Nat) (w : World) (hs : Ints w w.heap.size a l) (hn : l.length ≤ maxLen) :
    Calls Try.prog 5 #[.slice a l.length cap] w fun e w' => e = .returned (.bool true) ∧ Below w.heap.size w w' := by
  have HTo := hideB (fun W (hW : Below w.heap.size w W) (h : l.length ≤ 1048576) => toInt_any a cap l W ((hs.below hW).mono hW.size) h)
  have HI := hideB (fun (x : Option Addr) (W : World) (h : l.length ≤ 1048576) hx => lengths_impl2 l x l.length W.heap.size W hx (Nat.le_refl _) h)
  have HP := hideB (fun (x : Option Addr) (W : World) (h : l.length ≤ 1048576) hx => lengths_spec l x l.length W.heap.size W hx (Nat.le_refl _) h)
  have HEx := hideB (fun (W : World) (lo hi lo' hi' : Nat) (u v : Value) (h1 : In.OwnIn W lo hi u l) (h2 : In.OwnIn W lo' hi' v l) (hm : l.length ≤ 1048576) => In.eq_in h1 h2 hm)
  have HMx := hideB (fun (W : World) (lo hi : Nat) (v : Value) (h1 : In.OwnIn W lo hi v l) (hm : l.length ≤ 1048576) => In.mark_in h1 hm)
  have HIn := hideB (fun (W : World) (g : Nat) (h1 : IsI W g 2 l) => h1.inn l.length)
  have HQ : Hid (l.length ≤ 1048576 → (lensR l).length ≤ 1048576) := fun hn => lensR_length l hn
  clear hs
  unfold maxLen at hn
  generalize l.length = n at hn HTo HI HP HEx HMx HIn HQ ⊢
  obtain ⟨q, hq⟩ : ∃ q, q = lensR l := ⟨_, rfl⟩
  rw [← hq] at HI HP HQ
  clear hq
  by_cases hbig : 1048576 < n
  · go_enter Try.func5, Try.ntmps5
    go_wp2_with fail
    go_ret
    exact ⟨rfl, Below.refl _ _⟩
  · have HN : Hid (n ≤ 1048576) := by
      unfold Hid
      omega
    have HQN : Hid (q.length ≤ 1048576) := HQ.out HN.out
    clear HQ
    go_enter Try.func5, Try.ntmps5
    go_wp2_with fail
    refine (HTo.out w (Below.refl _ _) HN.out).mono ?_
    rintro e w1 ⟨rfl, hi1, hb1⟩
    have S1 := hideB (hi1.ints hi1.lt)
    have B1 := hideB hb1
    clear hi1 hb1
    go_wp2_with fail
    refine (HP.out (some ⟨w.heap.size, 0, none⟩) w1 HN.out S1.out).mono ?_
    rintro e w2 ⟨v6, rfl, ho6, hb2⟩
    have V6 := hideB ho6.inn
    have B2 := hideB (below2 B1.out hb2)
    clear hb2 ho6
    go_wp2_with fail
    refine (HTo.out w2 B2.out HN.out).mono ?_
    rintro e w3 ⟨rfl, hi3, hb3⟩
    have X3 := hideB hi3
    have V6b := hideB (V6.out.below hb3 (Nat.le_refl _))
    have B3 := hideB (below2 B2.out hb3)
    have z3 : w2.heap.size < w3.heap.size := hi3.lt
    clear hi3 hb3 V6
    go_wp2_with fail
    refine (HI.out (some ⟨w2.heap.size, 0, none⟩) w3 HN.out (X3.out.ints X3.out.lt)).mono ?_
    rintro e w4 ⟨v8, rfl, ho8, hb4⟩
    have V8 := hideB ho8.inn
    have X4 := hideB (HIn.out _ _ (X3.out.below hb4 X3.out.lt))
    have V6c := hideB (V6b.out.below hb4 (by omega))
    have B4 := hideB (below2 B3.out hb4)
    have z4 := hb4.size
    clear hb4 ho8 V6b X3
    go_wp2_with fail
    refine (In.eq_in V8.out V6c.out HQN.out).mono ?_
    rintro e w5 ⟨rfl, hb5⟩
    have V8b := hideB (V8.out.below hb5 (Nat.le_refl _))
    have V6d := hideB (V6c.out.below hb5 (by omega))
    have X5 := hideB (X4.out.below hb5 (by omega))
    have B5 := hideB (below2 B4.out hb5)
    have z5 := hb5.size
    clear hb5 V8 V6c X4
    go_wp2_with fail
    refine (HTo.out w5 B5.out HN.out).mono ?_
    rintro e w6 ⟨rfl, hi6, hb6⟩
    have X6 := hideB (X5.out.below hb6 (by omega))
    have Y6 := hideB (HIn.out _ _ hi6)
    have V8c := hideB (V8b.out.below hb6 (by omega))
    have V6e := hideB (V6d.out.below hb6 (by omega))
    have B6 := hideB (below2 B5.out hb6)
    have z6 := hb6.size
    clear hb6 hi6 V8b V6d X5
    go_wp2_with fail
    refine (HEx.out _ _ _ _ _ _ _ X6.out Y6.out HN.out).mono ?_
    rintro e w7 ⟨rfl, hb7⟩
    have X7 := hideB (X6.out.below hb7 (by omega))
    have V8d := hideB (V8c.out.below hb7 (by omega))
    have V6f := hideB (V6e.out.below hb7 (by omega))
    have B7 := hideB (below2 B6.out hb7)
    have z7 := hb7.size
    clear hb7 X6 Y6 V8c V6e
    go_wp2_with fail
    refine (HMx.out _ _ _ _ X7.out HN.out).mono ?_
    rintro e w8 ⟨rfl, _, g, hg, ha8⟩
    have b2z := B2.out.size
    have V8e := hideB (V8d.out.aft ha8 (by omega) (by omega))
    have V6g := hideB (V6f.out.aft ha8 (by omega) (by omega))
    have B8 := hideB (Aft.below B7.out ha8 (by omega) B7.out.size)
    have z8 := ha8.2.2.2.1
    clear ha8 V8d V6f X7
    have hpos : ¬ (1 + (n : Int)) < 0 := by omega
    go_wp2_with fail
    refine (In.eq_in V8e.out V6g.out HQN.out).mono ?_
    rintro e w9 ⟨rfl, hb9⟩
    have V8f := hideB (V8e.out.below hb9 (by omega))
    have V6h := hideB (V6g.out.below hb9 (by omega))
    have B9 := hideB (below2 B8.out hb9)
    have z9 := hb9.size
    clear hb9 V8e V6g
    go_wp2_with fail
    refine (In.mark_in V8f.out HQN.out).mono ?_
    rintro e w10 ⟨rfl, hm10, g', hg', ha10⟩
    have M10 := hideB hm10
    have V6i := hideB (V6h.out.aft ha10 (by omega) (by omega))
    have B10 := hideB (Aft.below B9.out ha10 (by omega) B9.out.size)
    have z10 := ha10.2.2.2.1
    clear ha10 hm10 V8f V6h
    generalize hql : q.length = ql at HQN M10 ⊢
    have hpos2 : ¬ (1 + (ql : Int)) < 0 := by omega
    go_wp2_with fail
    refine (In.held_in M10.out HQN.out).mono ?_
    rintro e w11 ⟨rfl, hb11⟩
    have M11 := hideB (M10.out.below hb11 (by omega))
    have V6j := hideB (V6i.out.below hb11 (by omega))
    have B11 := hideB (below2 B10.out hb11)
    have z11 := hb11.size
    clear hb11 M10 V6i
    go_wp2_with fail
    refine (HTo.out w11 B11.out HN.out).mono ?_
    rintro e w12 ⟨rfl, hi12, hb12⟩
    have S12 := hideB (hi12.ints hi12.lt)
    have M12 := hideB (M11.out.below hb12 (by omega))
    have V6k := hideB (V6j.out.below hb12 (by omega))
    have B12 := hideB (below2 B11.out hb12)
    have z12 := hb12.size
    clear hi12 hb12 M11 V6j
    go_wp2_with fail
    refine (HI.out (some ⟨w11.heap.size, 0, none⟩) w12 HN.out S12.out).mono ?_
    rintro e w13 ⟨v12, rfl, ho13, hb13⟩
    have V13 := hideB ho13.inn
    have M13 := hideB (M12.out.below hb13 (by omega))
    have V6l := hideB (V6k.out.below hb13 (by omega))
    have B13 := hideB (below2 B12.out hb13)
    have z13 := hb13.size
    clear hb13 ho13 M12 V6k
    go_wp2_with fail
    refine (In.eq_in V13.out V6l.out (by rw [hql]; exact HQN.out)).mono ?_
    rintro e w14 ⟨rfl, hb14⟩
    have M14 := hideB (M13.out.below hb14 (by omega))
    have B14 := hideB (below2 B13.out hb14)
    have z14 := hb14.size
    clear hb14 M13 V6l V13
    go_wp2_with fail
    refine (In.held_in M14.out HQN.out).mono ?_
    rintro e w15 ⟨rfl, hb15⟩
    have B15 := hideB (below2 B14.out hb15)
    clear hb15
    go_wp2_with fail
    go_ret
    exact ⟨rfl, B15.out⟩

theorem walk (a0 : Option Addr) (len0 cap0 : Nat) (z0 : List Int) {w : World} (w0 : IsNums w a0 len0 cap0 z0) :
    Calls Try.prog 5 #[.slice a0 len0 cap0] w fun e w' => e = .returned (.bool true) ∧ Below w.heap.size w w' := by
  obtain ⟨l, rfl, hs, hm, _, _⟩ := ints_of w0
  exact walk_in l a0 cap0 w hs hm
end Go.Proofs.Ytmkpakhpjgocjaa.fnExactLengthsOf
