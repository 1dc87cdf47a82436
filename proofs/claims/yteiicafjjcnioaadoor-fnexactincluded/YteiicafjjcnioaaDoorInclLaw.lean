/- The walk of the law on Included. -/
import Derived.Test.YteiicafjjcnioaaDoorInclSpec
import Derived.Test.YteiicafjjcnioaaDoorStrIn
namespace Go.Proofs.YteiicafjjcnioaaDoor.fnExactIncluded
open Go.RowKit
open Go.Proofs.YteiicafjjcnioaaDoor.St
open Go.Proofs.YteiicafjjcnioaaDoor.Tr
open Go.Proofs.YteiicafjjcnioaaDoor.Sh (Vars)

set_option maxHeartbeats 4000000 in
theorem walk_in (leaf root : ByteArray) (hl : leaf.size ≤ maxLen) (hr : root.size ≤ maxLen) (i n : Int) (hnn : n < 9223372036854775808) (l : List ByteArray) (a : Option Addr) (cap : Nat) (w : World) (hs : Strs w w.heap.size a l) (hn : l.length ≤ maxLen) (hz : ∀ s ∈ l, s.size ≤ maxLen) (hV : Vars w) :
    Calls Tryd.prog 13 #[.string leaf, .int .i64 i, .int .i64 n, .slice a l.length cap, .string root] w fun e w' => e = .returned (.bool true) ∧ Below w.heap.size w w' := by
  have HS := hideT hs
  have HV := hideT hV
  have hv2 := hV.two
  have HZ := hideT (sz_any a cap l w hs hn hz)
  have HTo := hideT (fun W (hW : Below w.heap.size w W) (h : l.length ≤ 1048576) => toStr_any a cap l W ((HS.out.below hW).mono hW.size) h)
  have HEq := hideT (fun (x y : Option Addr) (W : World) (B : Nat) (h : l.length ≤ 1048576) hx hy => eq_any x y l.length l.length l W B hx hy h)
  have HI := hideT (fun (x : Option Addr) (W : World) (h : l.length ≤ 1048576) hx hV => incl_impl leaf root i n l x l.length W.heap.size W hnn h (Nat.le_refl _) hx (Nat.le_refl _) hV)
  have HP := hideT (fun (x : Option Addr) (W : World) (h : l.length ≤ 1048576) hx => incl_spec leaf root i n l x l.length W.heap.size W hnn h hx (Nat.le_refl _))
  clear hs hV hz
  unfold maxLen at hn hl hr
  generalize l.length = m at hn HZ HTo HEq HI HP ⊢
  obtain ⟨q, hq⟩ : ∃ q, q = inclB leaf i n l root := ⟨_, rfl⟩
  rw [← hq] at HI HP
  clear hq hnn
  by_cases h1 : 1048576 < leaf.size
  · go_enter Tryd.func13, Tryd.ntmps13
    go_wp2_with fail
    go_ret
    exact ⟨rfl, Below.refl _ _⟩
  · by_cases h2 : 1048576 < root.size
    · go_enter Tryd.func13, Tryd.ntmps13
      go_wp2_with fail
      go_ret
      exact ⟨rfl, Below.refl _ _⟩
    · go_enter Tryd.func13, Tryd.ntmps13
      go_wp2_with fail
      refine HZ.out.mono ?_
      rintro e w' ⟨r, rfl, hr, hw⟩
      subst w'
      by_cases hneg : r < 0
      · go_wp2_with fail
        go_ret
        exact ⟨rfl, Below.refl _ _⟩
      · have HN := hideT (hr (by omega)).1
        clear hr
        go_wp2_with fail
        refine (HTo.out w (Below.refl _ _) HN.out).mono ?_
        rintro e w1 ⟨rfl, hi1, hb1⟩
        have S1 := hideT (hi1.strs hi1.lt)
        have B1 := hideT hb1
        clear hi1 hb1
        go_wp2_with fail
        refine (HP.out (some ⟨w.heap.size, 0, none⟩) w1 HN.out S1.out).mono ?_
        rintro e w2 ⟨rfl, hb2⟩
        have B2 := hideT (below2 B1.out hb2)
        clear hb2
        go_wp2_with fail
        refine (HTo.out w2 B2.out HN.out).mono ?_
        rintro e w3 ⟨rfl, hi3, hb3⟩
        have I3 := hideT hi3
        have B3 := hideT (below2 B2.out hb3)
        clear hi3 hb3
        go_wp2_with fail
        refine (HI.out (some ⟨w2.heap.size, 0, none⟩) w3 HN.out (I3.out.strs I3.out.lt) (HV.out.below B3.out hv2)).mono ?_
        rintro e w4 ⟨rfl, hb4⟩
        have I4 := hideT (I3.out.below hb4 I3.out.lt)
        have B4 := hideT (below2 B3.out hb4)
        clear hb4
        have hqq : (q == q) = true := by simp
        go_wp2_with fail
        refine (HTo.out w4 B4.out HN.out).mono ?_
        rintro e w5 ⟨rfl, hi5, hb5⟩
        have I5 := hideT (I4.out.below hb5 I4.out.lt)
        have J5 := hideT hi5
        have B5 := hideT (below2 B4.out hb5)
        clear hb5 hi5
        go_wp2_with fail
        refine (HEq.out (some ⟨w2.heap.size, 0, none⟩) (some ⟨w4.heap.size, 0, none⟩) w5 w5.heap.size HN.out (I5.out.strs I5.out.lt) (J5.out.strs J5.out.lt)).mono ?_
        rintro e w6 ⟨rfl, hb6⟩
        have B6 := hideT (below2 B5.out hb6)
        clear hb6
        go_wp2_with fail
        go_ret
        exact ⟨rfl, B6.out⟩

theorem walk (leaf : ByteArray) (hl : leaf.size ≤ maxLen) (i : Int) (_ : (Lit.int .i64 i).wf = true) (n : Int) (hn : (Lit.int .i64 n).wf = true) (a0 : Option Addr) (len0 cap0 : Nat) (z0 : List ByteArray) {w : World} (w0 : IsStrs w a0 len0 cap0 z0) (root : ByteArray) (hr : root.size ≤ maxLen) (hV : Vars w) :
    Calls Tryd.prog 13 #[.string leaf, .int .i64 i, .int .i64 n, .slice a0 len0 cap0, .string root] w fun e w' => e = .returned (.bool true) ∧ Below w.heap.size w w' := by
  obtain ⟨l, rfl, hs, hm, _, hz⟩ := strs_of w0
  have hn' : n < 9223372036854775808 := by
    simp [Lit.wf, IntKind.min, IntKind.max, IntKind.signed, IntKind.bits] at hn
    omega
  exact walk_in leaf root hl hr i n hn' l a0 cap0 w hs hm hz hV
end Go.Proofs.YteiicafjjcnioaaDoor.fnExactIncluded
