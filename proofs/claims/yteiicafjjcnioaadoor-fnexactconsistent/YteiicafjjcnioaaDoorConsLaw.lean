/- What spec.Consistent answers, and the law on it. -/
import Derived.Test.YteiicafjjcnioaaDoorConsSpec
import Derived.Test.YteiicafjjcnioaaDoorStrIn
namespace Go.Proofs.YteiicafjjcnioaaDoor.Tr
open Go.RowKit
open Go.Proofs.YteiicafjjcnioaaDoor.St
open Go.Proofs.YteiicafjjcnioaaDoor.Sh (Vars)

set_option maxRecDepth 100000 in
set_option maxHeartbeats 1000000 in
theorem cons_spec (old n : Int) (p : List ByteArray) (was root : ByteArray) (b off cap B : Nat) (w : World) (hn : n < 9223372036854775808) (hp : p.length ≤ 1048576) (hb : b < B) (hc0 : ∀ j (h : j < p.length), w.cell? ⟨b, off + j, none⟩ = some (.string p[j])) (hB : B ≤ w.heap.size) :
    Calls Tryd.prog 49 #[.int .i64 old, .int .i64 n, .slice (some ⟨b, off, none⟩) p.length cap, .string was, .string root] w fun e w' => e = .returned (.bool (consB old n p was root)) ∧ Below w.heap.size w w' := by
  have hs : Strs w B (some ⟨b, off, none⟩) p := .inr ⟨b, off, rfl, hb, hc0⟩
  have HD := hideT (wide_spec (some ⟨b, off, none⟩) cap p w B hs hp)
  have HIN := hideT (fun (o' n' : Nat) h1 h2 h3 h4 h5 h6 h7 => cons_at o' n' p was root b off cap B w h1 h2 h3 h4 h5 h6 h7 hb hc0 hB)
  have HPath := hideT (consB_path old n p was root)
  clear hs hc0
  by_cases h64 : 64 < p.length
  · have HF := hideT (HPath.out (by rw [decide_eq_false (by omega)]; rfl))
    clear HIN
    generalize p.length = m at hp HD h64 ⊢
    go_enter Tryd.func49, Tryd.ntmps49
    go_wp2_with fail
    go_ret
    exact ⟨ret_bool HF.out.symm, Below.refl _ _⟩
  · cases h3 : wide p with
    | false =>
      rw [h3] at HD
      have HF := hideT (HPath.out (by rw [h3, Bool.and_false]))
      clear HIN
      generalize p.length = m at hp HD h64 ⊢
      go_enter Tryd.func49, Tryd.ntmps49
      go_wp2_with fail
      refine HD.out.mono ?_
      rintro e w1 ⟨rfl, hw⟩
      subst w1
      go_wp2_with fail
      go_ret
      exact ⟨ret_bool HF.out.symm, Below.refl _ _⟩
    | true =>
      have HT : Hid ((decide (p.length ≤ 64) && wide p) = true) := by
        unfold Hid
        rw [h3, decide_eq_true (by omega)]
        rfl
      by_cases hl : was.size = 32
      · by_cases hr : root.size = 32
        · by_cases h0 : old < 1
          · rw [h3] at HD
            have HF := hideT (consB_low old n p was root h0)
            clear HIN
            generalize p.length = m at hp HD h64 ⊢
            go_enter Tryd.func49, Tryd.ntmps49
            go_wp2_with fail
            refine HD.out.mono ?_
            rintro e w1 ⟨rfl, hw⟩
            subst w1
            go_wp2_with fail
            go_ret
            exact ⟨ret_bool HF.out.symm, Below.refl _ _⟩
          · by_cases hin : n < old
            · rw [h3] at HD
              have HF := hideT (consB_high old n p was root hin)
              clear HIN
              generalize p.length = m at hp HD h64 ⊢
              go_enter Tryd.func49, Tryd.ntmps49
              go_wp2_with fail
              refine HD.out.mono ?_
              rintro e w1 ⟨rfl, hw⟩
              subst w1
              go_wp2_with fail
              go_ret
              exact ⟨ret_bool HF.out.symm, Below.refl _ _⟩
            · obtain ⟨o', rfl⟩ : ∃ k : Nat, old = k := ⟨old.toNat, by omega⟩
              obtain ⟨n', rfl⟩ : ∃ k : Nat, n = k := ⟨n.toNat, by omega⟩
              rw [consB_in o' n' p was root (by omega) (by omega) hl hr HT.out]
              unfold consV
              by_cases he : o' = n'
              · rw [if_pos he]
                rw [h3] at HD
                clear HIN HPath
                subst he
                have b2 : decide ((o' : Int) < 1) = false := by simp; omega
                clear hin h0 hn HT
                generalize p.length = m at hp HD h64 ⊢
                by_cases hm0 : m = 0
                · subst hm0
                  have HE : Hid ((decide (0 = 0) && decide (was = root)) = decide (was = root)) := by
                    unfold Hid
                    simp
                  go_enter Tryd.func49, Tryd.ntmps49
                  go_wp2_with fail
                  refine HD.out.mono ?_
                  rintro e w1 ⟨rfl, hw⟩
                  subst w1
                  go_wp2_with fail
                  go_ret
                  exact ⟨ret_bool (by first | (rw [HE.out]; exact str_eq _ _) | (rw [str_eq]; simp)), Below.refl _ _⟩
                · have HE : Hid ((decide (m = 0) && decide (was = root)) = false) := by
                    unfold Hid
                    rw [decide_eq_false hm0]
                    rfl
                  have g0 : ((m : Int) == 0) = false := by simp; omega
                  clear hm0
                  go_enter Tryd.func49, Tryd.ntmps49
                  go_wp2_with fail
                  refine HD.out.mono ?_
                  rintro e w1 ⟨rfl, hw⟩
                  subst w1
                  go_wp2_with fail
                  go_ret
                  exact ⟨ret_bool HE.out.symm, Below.refl _ _⟩
              · rw [if_neg he]
                exact HIN.out o' n' (by omega) (by omega) (by omega) (by omega) hl hr h3
        · rw [h3] at HD
          have HF := hideT (consB_root old n p was root hr)
          clear HIN
          generalize p.length = m at hp HD h64 ⊢
          go_enter Tryd.func49, Tryd.ntmps49
          go_wp2_with fail
          refine HD.out.mono ?_
          rintro e w1 ⟨rfl, hw⟩
          subst w1
          go_wp2_with fail
          go_ret
          exact ⟨ret_bool HF.out.symm, Below.refl _ _⟩
      · rw [h3] at HD
        have HF := hideT (consB_was old n p was root hl)
        clear HIN
        generalize p.length = m at hp HD h64 ⊢
        go_enter Tryd.func49, Tryd.ntmps49
        go_wp2_with fail
        refine HD.out.mono ?_
        rintro e w1 ⟨rfl, hw⟩
        subst w1
        go_wp2_with fail
        go_ret
        exact ⟨ret_bool HF.out.symm, Below.refl _ _⟩
end Go.Proofs.YteiicafjjcnioaaDoor.Tr

namespace Go.Proofs.YteiicafjjcnioaaDoor.fnExactConsistent
open Go.RowKit
open Go.Proofs.YteiicafjjcnioaaDoor.St
open Go.Proofs.YteiicafjjcnioaaDoor.Tr
open Go.Proofs.YteiicafjjcnioaaDoor.Sh (Vars)

set_option maxHeartbeats 4000000 in
theorem walk_in (i n : Int) (leaf root : ByteArray) (hl : leaf.size ≤ maxLen) (hr : root.size ≤ maxLen) (hnn : n < 9223372036854775808) (l : List ByteArray) (a : Option Addr) (cap : Nat) (w : World) (hs : Strs w w.heap.size a l) (hn : l.length ≤ maxLen) (hz : ∀ s ∈ l, s.size ≤ maxLen) (hV : Vars w) :
    Calls Tryd.prog 15 #[.int .i64 i, .int .i64 n, .slice a l.length cap, .string leaf, .string root] w fun e w' => e = .returned (.bool true) ∧ Below w.heap.size w w' := by
  have HS := hideT hs
  have HV := hideT hV
  have hv2 := hV.two
  have HZ := hideT (sz_any a cap l w hs hn hz)
  have HTo := hideT (fun W (hW : Below w.heap.size w W) (h : l.length ≤ 1048576) => toStr_any a cap l W ((HS.out.below hW).mono hW.size) h)
  have HEq := hideT (fun (x y : Option Addr) (W : World) (B : Nat) (h : l.length ≤ 1048576) hx hy => eq_any x y l.length l.length l W B hx hy h)
  have HI := hideT (fun (x : Option Addr) (W : World) (h : l.length ≤ 1048576) hx hV => cons_impl i n l leaf root x l.length W.heap.size W hnn h (Nat.le_refl _) hx (Nat.le_refl _) hV)
  have HP := hideT (fun (g : Nat) (W : World) (h : l.length ≤ 1048576) (hx : IsS W g 9 l) => cons_spec i n l leaf root g 0 l.length W.heap.size W hnn h hx.lt (fun j hj => by rw [Nat.zero_add]; exact hx.cell hj) (Nat.le_refl _))
  clear hs hV hz
  unfold maxLen at hn hl hr
  generalize l.length = m at hn HZ HTo HEq HI HP ⊢
  obtain ⟨q, hq⟩ : ∃ q, q = consB i n l leaf root := ⟨_, rfl⟩
  rw [← hq] at HI HP
  clear hq hnn
  by_cases h1 : 1048576 < leaf.size
  · go_enter Tryd.func15, Tryd.ntmps15
    go_wp2_with fail
    go_ret
    exact ⟨rfl, Below.refl _ _⟩
  · by_cases h2 : 1048576 < root.size
    · go_enter Tryd.func15, Tryd.ntmps15
      go_wp2_with fail
      go_ret
      exact ⟨rfl, Below.refl _ _⟩
    · go_enter Tryd.func15, Tryd.ntmps15
      go_wp2_with fail
      refine HZ.out.mono ?_
      rintro e w' ⟨r, rfl, hr, hw⟩
      subst w'
      by_cases hneg : r < 0
      · go_wp2_with fail
        go_ret
        exact ⟨rfl, Below.refl _ _⟩
      · have HN := hideT (hr (by omega)).1
        clear hr
        go_wp2_with fail
        refine (HTo.out w (Below.refl _ _) HN.out).mono ?_
        rintro e w1 ⟨rfl, hi1, hb1⟩
        have S1 := hideT hi1
        have B1 := hideT hb1
        clear hi1 hb1
        go_wp2_with fail
        refine (HP.out w.heap.size w1 HN.out S1.out).mono ?_
        rintro e w2 ⟨rfl, hb2⟩
        have B2 := hideT (below2 B1.out hb2)
        clear hb2
        go_wp2_with fail
        refine (HTo.out w2 B2.out HN.out).mono ?_
        rintro e w3 ⟨rfl, hi3, hb3⟩
        have I3 := hideT hi3
        have B3 := hideT (below2 B2.out hb3)
        clear hi3 hb3
        go_wp2_with fail
        refine (HI.out (some ⟨w2.heap.size, 0, none⟩) w3 HN.out (I3.out.strs I3.out.lt) (HV.out.below B3.out hv2)).mono ?_
        rintro e w4 ⟨rfl, hb4⟩
        have I4 := hideT (I3.out.below hb4 I3.out.lt)
        have B4 := hideT (below2 B3.out hb4)
        clear hb4
        have hqq : (q == q) = true := by simp
        go_wp2_with fail
        refine (HTo.out w4 B4.out HN.out).mono ?_
        rintro e w5 ⟨rfl, hi5, hb5⟩
        have I5 := hideT (I4.out.below hb5 I4.out.lt)
        have J5 := hideT hi5
        have B5 := hideT (below2 B4.out hb5)
        clear hb5 hi5
        go_wp2_with fail
        refine (HEq.out (some ⟨w2.heap.size, 0, none⟩) (some ⟨w4.heap.size, 0, none⟩) w5 w5.heap.size HN.out (I5.out.strs I5.out.lt) (J5.out.strs J5.out.lt)).mono ?_
        rintro e w6 ⟨rfl, hb6⟩
        have B6 := hideT (below2 B5.out hb6)
        clear hb6
        go_wp2_with fail
        go_ret
        exact ⟨rfl, B6.out⟩

theorem walk (i : Int) (_ : (Lit.int .i64 i).wf = true) (n : Int) (hn : (Lit.int .i64 n).wf = true) (a0 : Option Addr) (len0 cap0 : Nat) (z0 : List ByteArray) {w : World} (w0 : IsStrs w a0 len0 cap0 z0) (leaf : ByteArray) (hl : leaf.size ≤ maxLen) (root : ByteArray) (hr : root.size ≤ maxLen) (hV : Vars w) :
    Calls Tryd.prog 15 #[.int .i64 i, .int .i64 n, .slice a0 len0 cap0, .string leaf, .string root] w fun e w' => e = .returned (.bool true) ∧ Below w.heap.size w w' := by
  obtain ⟨l, rfl, hs, hm, _, hz⟩ := strs_of w0
  have hn' : n < 9223372036854775808 := by
    simp [Lit.wf, IntKind.min, IntKind.max, IntKind.signed, IntKind.bits] at hn
    omega
  exact walk_in i n leaf root hl hr hn' l a0 cap0 w hs hm hz hV
end Go.Proofs.YteiicafjjcnioaaDoor.fnExactConsistent
