/- Texts put together: StrIn, FitsLaw. -/
import Derived.Test.YtkfipamdfpknpaaDoorFz13
import Derived.Test.YtkfipamdfpknpaaDoorFz33
import Derived.Test.YtkfipamdfpknpaaDoorFz30
import Derived.Test.YtkfipamdfpknpaaDoorFz32
import Derived.Test.YtkfipamdfpknpaaDoorFz26
/- Rows of texts between two marks of memory: what the laws' helpers do with them. -/
namespace Go.Proofs.YtkfipamdfpknpaaDoor.St
open Go.RowKit
def OwnIn (w : World) (lo hi : Nat) (v : Value) (l : List ByteArray) : Prop :=
  (v = .slice none 0 0 ∧ l = []) ∨ ∃ g cap, v = .slice (some ⟨g, 0, none⟩) l.length cap ∧ lo ≤ g ∧ g < hi ∧ IsO w g 9 l
theorem OwnIn.below {w w' : World} {lo hi B : Nat} {v : Value} {l : List ByteArray} (h : OwnIn w lo hi v l) (b : Below B w w') (hB : hi ≤ B) : OwnIn w' lo hi v l := by
  rcases h with h | ⟨g, cap, hv, hg, hh, ho⟩
  · exact .inl h
  · exact .inr ⟨g, cap, hv, hg, hh, ho.below b (by omega)⟩
theorem OwnIn.strs {w : World} {lo hi : Nat} {v : Value} {l : List ByteArray} (h : OwnIn w lo hi v l) : ∃ a cap, v = .slice a l.length cap ∧ Strs w hi a l := by
  rcases h with ⟨rfl, rfl⟩ | ⟨g, cap, rfl, _, hh, ho⟩
  · exact ⟨none, 0, rfl, .inl rfl⟩
  · exact ⟨_, cap, rfl, ho.strs hh⟩
def Marked (w : World) (lo hi : Nat) (v : Value) (n : Nat) : Prop := OwnIn w lo hi v (marks 1 n)
end Go.Proofs.YtkfipamdfpknpaaDoor.St


/- The walk of the law FnExactFits out of the contracts. -/
namespace Go.Proofs.YtkfipamdfpknpaaDoor.fnExactFits
open Go.RowKit
open Go.Proofs.YtkfipamdfpknpaaDoor.Ls
open Go.Proofs.YtkfipamdfpknpaaDoor.St (Strs IsStrs strs_of toStr_any eq_any szL_any)
open Go.Proofs.YtkfipamdfpknpaaDoor.Sh (Vars)
set_option maxRecDepth 100000 in
set_option maxHeartbeats 4000000 in
theorem walk_in (z b : Int) (r : ByteArray) (hr : r.size ≤ maxLen) (i : Int) (t : ByteArray) (ht : t.size ≤ maxLen) (l : List ByteArray) (a : Option Addr) (cap : Nat) (w : World) (hs : Strs w w.heap.size a l) (hn : l.length ≤ maxLen) (hz : ∀ s ∈ l, s.size ≤ maxLen) (hV : Vars w) :
    Calls Tryd.prog 4 #[lV z b r, .int .i64 i, .string t, .slice a l.length cap] w fun e w' => e = .returned (.bool true) ∧ Below w.heap.size w w' := by
  have HS := hideL hs
  have HV := hideL hV
  have HA : Hid (Below w.heap.size w (w.alloc (.cells #[.int .i64 z, .int .i64 b, .string r] 29))) := (Below.refl _ _).alloc (Nat.le_refl _) _
  have HX : Hid ((w.alloc (.cells #[.int .i64 z, .int .i64 b, .string r] 29)).heap[w.heap.size]? = some (.cells #[.int .i64 z, .int .i64 b, .string r] 29 (0, 0))) := heap_alloc_new w _
  have HSZ := hideL (fun (L : Nat) (hL : L ≤ 1048576) (W : World) (hW : Below w.heap.size w W) => szL_any L hL a cap l W ((HS.out.below hW).mono hW.size) hn hz)
  have HTo := hideL (fun (W : World) (hW : Below w.heap.size w W) (h : l.length ≤ 1048576) => toStr_any a cap l W ((HS.out.below hW).mono hW.size) h)
  have HEq := hideL (fun (x y : Option Addr) (W : World) (B : Nat) (h : l.length ≤ 1048576) hx hy => eq_any x y l.length l.length l W B hx hy h)
  have HI := hideL (fun (x : Option Addr) (W : World) (h : l.length ≤ 1048576) hx hV => fits_impl z b r i t l x l.length l.length W ht rfl h (Nat.le_refl _) hx hV)
  have HP := hideL (fun (x : Option Addr) (W : World) (h : l.length ≤ 1048576) hx => fits_spec z b r i t l x l.length l.length W rfl h hx)
  have HTL := hideL (fun W => to_any z b r W)
  have HSY := hideL (fun W (h : r.size ≤ 1048576) => sz_yes z b r W h)
  have HSN := hideL (fun W (h : 1048576 < r.size) => sz_no z b r W (by unfold maxLen at hr; exact hr) h)
  clear hs hV hz
  unfold maxLen at hn ht hr
  generalize l.length = m at hn HSZ HTo HEq HI HP ⊢
  obtain ⟨q, hq⟩ : ∃ q, q = fitsB z b r i t l := ⟨_, rfl⟩
  rw [← hq] at HI HP
  clear hq
  unfold lV at HI HP HTL HSY HSN ⊢
  by_cases h1 : 1048576 < t.size
  · have h1i : (1048576 : Int) < (t.size : Int) := by omega
    go_enter Tryd.func4, Tryd.ntmps4
    go_wp2_with fail
    go_ret
    exact ⟨rfl, HA.out⟩
  · have h1i : ¬ (1048576 : Int) < (t.size : Int) := by omega
    have h1d : decide ((1048576 : Int) < (t.size : Int)) = false := by simp; omega
    by_cases h2 : 1048576 < r.size
    · go_enter Tryd.func4, Tryd.ntmps4
      go_wp2_with fail
      refine (HSN.out _ h2).mono ?_
      rintro e w1 ⟨rfl, hb⟩
      have B1 := hideL (lowL HA.out hb)
      clear hb
      go_wp2_with fail
      go_ret
      exact ⟨rfl, B1.out⟩
    · obtain ⟨L, hL⟩ : ∃ L : Nat, (L : Int) = 1048576 - (r.size : Int) := ⟨1048576 - r.size, by omega⟩
      have hL1 : L ≤ 1048576 := by omega
      rw [← hL] at HSY
      clear hL
      go_enter Tryd.func4, Tryd.ntmps4
      go_wp2_with fail
      generalize hww : w.alloc (.cells #[.int .i64 z, .int .i64 b, .string r] 29) = wa at HA HX ⊢
      generalize w.heap.size = gx at HX ⊢
      clear hww
      refine (HSY.out _ (by omega)).mono ?_
      rintro e w1 ⟨rfl, hb⟩
      have X1 := hideL (blkL HX.out hb)
      have B1 := hideL (lowL HA.out hb)
      clear hb HX HA
      have hLn : ¬ ((L : Nat) : Int) < 0 := by omega
      have hLd : decide (((L : Nat) : Int) < 0) = false := by simp
      go_wp2_with fail
      refine (HSZ.out L hL1 _ B1.out).mono ?_
      rintro e w2 ⟨rr, rfl, hrr, hw⟩
      subst w2
      by_cases hneg : rr < 0
      · go_wp2_with fail
        go_ret
        exact ⟨rfl, B1.out⟩
      · have HN := hideL (hrr (by omega)).1
        have hnd : decide (rr < 0) = false := by simp; omega
        clear hrr
        obtain ⟨c0, c1, c2⟩ := cells3 X1.out
        go_wp2_with fail
        refine (HTL.out _).mono ?_
        rintro e w2 ⟨rfl, hb⟩
        have X2 := hideL (blkL X1.out hb)
        have B2 := hideL (lowL B1.out hb)
        clear hb X1 B1 c0 c1 c2
        go_wp2_with fail
        refine (HTo.out w2 B2.out HN.out).mono ?_
        rintro e w3 ⟨rfl, hi, hb⟩
        have S3 := hideL (hi.strs hi.lt)
        have X3 := hideL (blkL X2.out hb)
        have B3 := hideL (lowL B2.out hb)
        clear hi hb X2 B2
        go_wp2_with fail
        refine (HP.out (some ⟨w2.heap.size, 0, none⟩) w3 HN.out S3.out).mono ?_
        rintro e w4 ⟨rfl, hb⟩
        have X4 := hideL (blkL X3.out hb)
        have B4 := hideL (lowL B3.out hb)
        clear hb X3 B3 S3
        go_wp2_with fail
        refine (HTo.out w4 B4.out HN.out).mono ?_
        rintro e w5 ⟨rfl, hi, hb⟩
        have I5 := hideL hi
        have X5 := hideL (blkL X4.out hb)
        have B5 := hideL (lowL B4.out hb)
        clear hi hb X4 B4
        obtain ⟨c0, c1, c2⟩ := cells3 X5.out
        go_wp2_with fail
        refine (HTL.out _).mono ?_
        rintro e w6 ⟨rfl, hb⟩
        have I6 := hideL (I5.out.below hb I5.out.lt)
        have B6 := hideL (lowL B5.out hb)
        clear hb X5 B5 I5 c0 c1 c2
        go_wp2_with fail
        refine (HI.out (some ⟨w4.heap.size, 0, none⟩) w6 HN.out (I6.out.strs I6.out.lt) (vars_keepF HV.out B6.out)).mono ?_
        rintro e w7 ⟨rfl, hb⟩
        have I7 := hideL (I6.out.below hb I6.out.lt)
        have B7 := hideL (lowL B6.out hb)
        clear hb B6 I6
        have hqq : (q == q) = true := by simp
        have hqn : (q != q) = false := by simp
        go_wp2_with fail
        refine (HTo.out w7 B7.out HN.out).mono ?_
        rintro e w8 ⟨rfl, hi, hb⟩
        have I8 := hideL (I7.out.below hb I7.out.lt)
        have J8 := hideL hi
        have B8 := hideL (lowL B7.out hb)
        clear hi hb B7 I7
        go_wp2_with fail
        refine (HEq.out (some ⟨w4.heap.size, 0, none⟩) (some ⟨w7.heap.size, 0, none⟩) w8 w8.heap.size HN.out (I8.out.strs I8.out.lt) (J8.out.strs J8.out.lt)).mono ?_
        rintro e w9 ⟨rfl, hb⟩
        have B9 := hideL (lowL B8.out hb)
        clear hb
        go_wp2_with fail
        go_ret
        exact ⟨rfl, B9.out⟩
theorem walk (z b : Int) (r : ByteArray) (_ : (Lit.int .i64 z).wf = true) (_ : (Lit.int .i64 b).wf = true) (hr : r.size ≤ maxLen) (i : Int) (_ : (Lit.int .i64 i).wf = true) (t : ByteArray) (ht : t.size ≤ maxLen) (a0 : Option Addr) (len0 cap0 : Nat) (z0 : List ByteArray) {w : World} (w0 : IsStrs w a0 len0 cap0 z0) (hV : Vars w) :
    Calls Tryd.prog 4 #[lV z b r, .int .i64 i, .string t, .slice a0 len0 cap0] w fun e w' => e = .returned (.bool true) ∧ Below w.heap.size w w' := by
  obtain ⟨l, rfl, hs, hm, _, hz⟩ := strs_of w0
  exact walk_in z b r hr i t ht l a0 cap0 w hs hm hz hV
end Go.Proofs.YtkfipamdfpknpaaDoor.fnExactFits

