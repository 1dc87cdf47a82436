/- Texts put together: StrLaws, WayLaw. -/
import Derived.Test.YtkfipamdfpknpaaDoorWy45
import Derived.Test.YtkfipamdfpknpaaDoorWy43
/- The laws' own helpers on rows of texts: the budget of their sizes. -/
namespace Go.Proofs.YtkfipamdfpknpaaDoor.St
open Go.RowKit
set_option maxRecDepth 100000 in
set_option maxHeartbeats 1000000 in
/-- what is left of a budget: below 0, or each text and their number are within it -/
theorem sz_any (a : Option Addr) (cap : Nat) (l : List ByteArray) (w : World) (h : Strs w w.heap.size a l) (hn : l.length ≤ maxLen) (hs : ∀ s ∈ l, s.size ≤ maxLen) :
  Calls Tryd.prog 10 #[.slice a l.length cap, .int .i64 1048576] w fun e w' => ∃ r : Int, e = .returned (.int .i64 r) ∧ (0 ≤ r → l.length ≤ 1048576 ∧ ∀ s ∈ l, s.size ≤ 1048576) ∧ w' = w := by
 have HS := hideT h
 have HZ := hideT hs
 clear h hs
 unfold maxLen at hn
 obtain ⟨n, hln⟩ : ∃ n, n = l.length := ⟨_, rfl⟩
 have HLN := hideT hln
 rw [← hln] at hn ⊢
 clear hln
 by_cases hbig : 1048576 < n
 ·have g1 : (1048576 : Int) - n < 0 := by omega
  go_enter Tryd.func10, Tryd.ntmps10
  go_wp2_with fail
  go_ret
  exact ⟨-1, rfl, fun h => by omega, rfl⟩
 ·have g1 : ¬ (1048576 : Int) - n < 0 := by omega
  go_enter Tryd.func10, Tryd.ntmps10
  go_wp2_with fail
  go_loopw [5, 1] (fun i v wr => ∃ (k : Nat) (r : Int), i = .int .i64 k ∧ v = .int .i64 r ∧ k ≤ n ∧ 0 ≤ r ∧ r ≤ 1048576 ∧ (∀ j (hj : j < l.length), j < k → l[j].size ≤ 1048576) ∧ wr = w) (fun i _ _ => n - (intOf i).toNat)
  case atStart => exact ⟨0, _, rfl, rfl, by omega, by omega, by omega, fun j hj h0 => by omega, rfl⟩
  case round =>
   obtain ⟨k, r, rfl, rfl, hk, r0, r1, hall, hw⟩ := hrel
   subst hw
   have HA := hideT hall
   clear hall
   by_cases hlt : k < n
   ·have hkl : k < l.length := by rw [← HLN.out]; exact hlt
    obtain ⟨b, off, rfl, hb, hc⟩ := HS.out.some (by omega)
    have ci := hc k hkl
    have hsz := HZ.out l[k] (List.getElem_mem hkl)
    obtain ⟨s, hs⟩ : ∃ s, s = l[k] := ⟨_, rfl⟩
    have HSE := hideT hs
    rw [← hs] at ci hsz
    unfold maxLen at hsz
    clear hc hs
    by_cases hneg : r - s.size < 0
    ·go_wp2_with fail
     go_ret
     exact ⟨-1, rfl, fun h => by omega, rfl⟩
    ·go_wp2_with fail
     go_roundw
     case rel =>
      refine ⟨k + 1, _, by go_num, rfl, by omega, by omega, by omega, fun j hj h0 => ?_, trivial⟩
      by_cases e : j = k
      ·subst e
       rw [← HSE.out]
       omega
      ·exact HA.out j hj (by omega)
     case measure => simp [intOf]; omega
   ·go_wp2_with fail
    go_ret
    refine ⟨r, rfl, fun _ => ⟨by have := HLN.out; omega, fun s hs => ?_⟩, rfl⟩
    obtain ⟨j, hj, rfl⟩ := List.getElem_of_mem hs
    exact HA.out j hj (by have := HLN.out; omega)
end Go.Proofs.YtkfipamdfpknpaaDoor.St


/- The walk of the law on WayOf. -/
namespace Go.Proofs.YtkfipamdfpknpaaDoor.fnExactWayOf
open Go.RowKit
open Go.Proofs.YtkfipamdfpknpaaDoor.St
open Go.Proofs.YtkfipamdfpknpaaDoor.Tr
open Go.Proofs.YtkfipamdfpknpaaDoor.Sh (Vars)
theorem wayL_length (i n : Int) (t : ByteArray) (p : List ByteArray) : (wayL i n t p).length ≤ 64 := by
 cases hx : wayX i n t p with
 | none => rw [wayL_none hx]; simp
 | some x =>
  rw [wayL_some hx, List.length_map]
  have hok : okW i n t p := by
   by_cases h : okW i n t p
   ·exact h
   ·rw [wayX_no h] at hx; cases hx
  obtain ⟨k1, k2, k3, k4, k5, k6⟩ := hok
  obtain ⟨i', rfl⟩ := Int.eq_ofNat_of_zero_le k1
  obtain ⟨n', rfl⟩ := Int.eq_ofNat_of_zero_le (show 0 ≤ n by omega)
  rw [wayX_yes ⟨k1, k2, k3, k4, k5, k6⟩] at hx
  have := (gR_good k4 n' n' i' p x ((wide_yes p).1 k6) hx).2
  omega
set_option maxHeartbeats 4000000 in
theorem walk_in (i nn : Int) (hnn : -9223372036854775808 ≤ nn) (t : ByteArray) (ht : t.size ≤ maxLen) (l : List ByteArray) (a : Option Addr) (cap : Nat) (w : World) (hs : Strs w w.heap.size a l) (hn : l.length ≤ maxLen) (hz : ∀ s ∈ l, s.size ≤ maxLen) (hV : Vars w) :
  Calls Tryd.prog 5 #[.int .i64 i, .int .i64 nn, .string t, .slice a l.length cap] w fun e w' => e = .returned (.bool true) ∧ Below w.heap.size w w' := by
 have HS := hideT hs
 have HV := hideT hV
 have hv2 := hV.two
 have HZ := hideT (sz_any a cap l w hs hn hz)
 have HTo := hideT (fun W (hW : Below w.heap.size w W) (h : l.length ≤ 1048576) => toStr_any a cap l W ((HS.out.below hW).mono hW.size) h)
 have HI := hideT (fun (x : Option Addr) (W : World) (h : l.length ≤ 1048576) hx hV => way_impl i nn t l x l.length l.length W rfl h (Nat.le_refl _) hx hV)
 have HP := hideT (fun (x : Option Addr) (W : World) (h : l.length ≤ 1048576) hx => way_spec i nn t l x l.length l.length W rfl h hnn hx)
 have HEx := hideT (fun (W : World) (lo hi lo' hi' : Nat) (u v : Value) (h1 : OwnIn W lo hi u l) (h2 : OwnIn W lo' hi' v l) (hm : l.length ≤ 1048576) => eq_in h1 h2 hm)
 have HMx := hideT (fun (W : World) (lo hi : Nat) (v : Value) (h1 : OwnIn W lo hi v l) (hm : l.length ≤ 1048576) => mark_in h1 hm)
 have HIn := hideT (fun (W : World) (g : Nat) (h1 : IsS W g 9 l) => h1.inn l.length)
 have HQ := hideT (wayL_length i nn t l)
 clear hs hV hz
 unfold maxLen at hn ht
 generalize l.length = n at hn HZ HTo HI HP HEx HMx HIn ⊢
 obtain ⟨q, hq⟩ : ∃ q, q = wayL i nn t l := ⟨_, rfl⟩
 rw [← hq] at HI HP HQ
 clear hq
 by_cases h1 : 1048576 < t.size
 ·have h1i : (1048576 : Int) < (t.size : Int) := by omega
  go_enter Tryd.func5, Tryd.ntmps5
  go_wp2_with fail
  go_ret
  exact ⟨rfl, Below.refl _ _⟩
 ·have h1i : ¬ (1048576 : Int) < (t.size : Int) := by omega
  have h1d : decide ((1048576 : Int) < (t.size : Int)) = false := by simp; omega
  go_enter Tryd.func5, Tryd.ntmps5
  go_wp2_with fail
  refine HZ.out.mono ?_
  rintro e w' ⟨r, rfl, hr, hw⟩
  subst w'
  by_cases hneg : r < 0
  ·go_wp2_with fail
   go_ret
   exact ⟨rfl, Below.refl _ _⟩
  ·have HN := hideT (hr (by omega)).1
   have HQN : Hid (q.length ≤ 1048576) := by
    have h1 := HQ.out
    have h2 := HN.out
    unfold Hid
    omega
   clear hr
   go_wp2_with fail
   refine (HTo.out w (Below.refl _ _) HN.out).mono ?_
   rintro e w1 ⟨rfl, hi1, hb1⟩
   have S1 := hideT (hi1.strs hi1.lt)
   have B1 := hideT hb1
   clear hi1 hb1
   go_wp2_with fail
   refine (HP.out (some ⟨w.heap.size, 0, none⟩) w1 HN.out S1.out).mono ?_
   rintro e w2 ⟨v6, rfl, ho6, hb2⟩
   have V6 := hideT ho6.inn
   have B2 := hideT (below2 B1.out hb2)
   clear hb2 ho6
   go_wp2_with fail
   refine (HTo.out w2 B2.out HN.out).mono ?_
   rintro e w3 ⟨rfl, hi3, hb3⟩
   have X3 := hideT hi3
   have V6b := hideT (V6.out.below hb3 (Nat.le_refl _))
   have B3 := hideT (below2 B2.out hb3)
   have z3 : w2.heap.size < w3.heap.size := hi3.lt
   clear hi3 hb3 V6
   go_wp2_with fail
   refine (HI.out (some ⟨w2.heap.size, 0, none⟩) w3 HN.out (X3.out.strs X3.out.lt) (HV.out.below B3.out hv2)).mono ?_
   rintro e w4 ⟨v8, rfl, ho8, hb4⟩
   have V8 := hideT ho8.inn
   have X4 := hideT (HIn.out _ _ (X3.out.below hb4 X3.out.lt))
   have V6c := hideT (V6b.out.below hb4 (by omega))
   have B4 := hideT (below2 B3.out hb4)
   have z4 := hb4.size
   clear hb4 ho8 V6b X3
   go_wp2_with fail
   refine (eq_in V8.out V6c.out HQN.out).mono ?_
   rintro e w5 ⟨rfl, hb5⟩
   have V8b := hideT (V8.out.below hb5 (Nat.le_refl _))
   have V6d := hideT (V6c.out.below hb5 (by omega))
   have X5 := hideT (X4.out.below hb5 (by omega))
   have B5 := hideT (below2 B4.out hb5)
   have z5 := hb5.size
   clear hb5 V8 V6c X4
   go_wp2_with fail
   refine (HTo.out w5 B5.out HN.out).mono ?_
   rintro e w6 ⟨rfl, hi6, hb6⟩
   have X6 := hideT (X5.out.below hb6 (by omega))
   have Y6 := hideT (HIn.out _ _ hi6)
   have V8c := hideT (V8b.out.below hb6 (by omega))
   have V6e := hideT (V6d.out.below hb6 (by omega))
   have B6 := hideT (below2 B5.out hb6)
   have z6 := hb6.size
   clear hb6 hi6 V8b V6d X5
   go_wp2_with fail
   refine (HEx.out _ _ _ _ _ _ _ X6.out Y6.out HN.out).mono ?_
   rintro e w7 ⟨rfl, hb7⟩
   have X7 := hideT (X6.out.below hb7 (by omega))
   have V8d := hideT (V8c.out.below hb7 (by omega))
   have V6f := hideT (V6e.out.below hb7 (by omega))
   have B7 := hideT (below2 B6.out hb7)
   have z7 := hb7.size
   clear hb7 X6 Y6 V8c V6e
   go_wp2_with fail
   refine (HMx.out _ _ _ _ X7.out HN.out).mono ?_
   rintro e w8 ⟨rfl, _, g, hg, ha8⟩
   have b2z := B2.out.size
   have V8e := hideT (V8d.out.aft ha8 (by omega) (by omega))
   have V6g := hideT (V6f.out.aft ha8 (by omega) (by omega))
   have B8 := hideT (Aft.below B7.out ha8 (by omega) B7.out.size)
   have z8 := ha8.2.2.2.1
   clear ha8 V8d V6f X7
   have hpos : ¬ (1 + (n : Int)) < 0 := by omega
   go_wp2_with fail
   refine (eq_in V8e.out V6g.out HQN.out).mono ?_
   rintro e w9 ⟨rfl, hb9⟩
   have V8f := hideT (V8e.out.below hb9 (by omega))
   have V6h := hideT (V6g.out.below hb9 (by omega))
   have B9 := hideT (below2 B8.out hb9)
   have z9 := hb9.size
   clear hb9 V8e V6g
   go_wp2_with fail
   refine (mark_in V8f.out HQN.out).mono ?_
   rintro e w10 ⟨rfl, hm10, g', hg', ha10⟩
   have M10 := hideT hm10
   have V6i := hideT (V6h.out.aft ha10 (by omega) (by omega))
   have B10 := hideT (Aft.below B9.out ha10 (by omega) B9.out.size)
   have z10 := ha10.2.2.2.1
   clear ha10 hm10 V8f V6h
   generalize hql : q.length = ql at HQN M10 HQ ⊢
   have hpos2 : ¬ (1 + (ql : Int)) < 0 := by omega
   go_wp2_with fail
   refine (held_in M10.out HQN.out).mono ?_
   rintro e w11 ⟨rfl, hb11⟩
   have M11 := hideT (M10.out.below hb11 (by omega))
   have V6j := hideT (V6i.out.below hb11 (by omega))
   have B11 := hideT (below2 B10.out hb11)
   have z11 := hb11.size
   clear hb11 M10 V6i
   go_wp2_with fail
   refine (HTo.out w11 B11.out HN.out).mono ?_
   rintro e w12 ⟨rfl, hi12, hb12⟩
   have S12 := hideT (hi12.strs hi12.lt)
   have M12 := hideT (M11.out.below hb12 (by omega))
   have V6k := hideT (V6j.out.below hb12 (by omega))
   have B12 := hideT (below2 B11.out hb12)
   have z12 := hb12.size
   clear hi12 hb12 M11 V6j
   go_wp2_with fail
   refine (HI.out (some ⟨w11.heap.size, 0, none⟩) w12 HN.out S12.out (HV.out.below B12.out hv2)).mono ?_
   rintro e w13 ⟨v12, rfl, ho13, hb13⟩
   have V13 := hideT ho13.inn
   have M13 := hideT (M12.out.below hb13 (by omega))
   have V6l := hideT (V6k.out.below hb13 (by omega))
   have B13 := hideT (below2 B12.out hb13)
   have z13 := hb13.size
   clear hb13 ho13 M12 V6k
   go_wp2_with fail
   refine (eq_in V13.out V6l.out (by rw [hql]; exact HQN.out)).mono ?_
   rintro e w14 ⟨rfl, hb14⟩
   have M14 := hideT (M13.out.below hb14 (by omega))
   have B14 := hideT (below2 B13.out hb14)
   have z14 := hb14.size
   clear hb14 M13 V6l V13
   go_wp2_with fail
   refine (held_in M14.out HQN.out).mono ?_
   rintro e w15 ⟨rfl, hb15⟩
   have B15 := hideT (below2 B14.out hb15)
   clear hb15
   go_wp2_with fail
   go_ret
   exact ⟨rfl, B15.out⟩
theorem walk (i : Int) (_ : (Lit.int .i64 i).wf = true) (nn : Int) (hn : (Lit.int .i64 nn).wf = true) (t : ByteArray) (ht : t.size ≤ maxLen) (a0 : Option Addr) (len0 cap0 : Nat) (z0 : List ByteArray) {w : World} (w0 : IsStrs w a0 len0 cap0 z0) (hV : Vars w) :
  Calls Tryd.prog 5 #[.int .i64 i, .int .i64 nn, .string t, .slice a0 len0 cap0] w fun e w' => e = .returned (.bool true) ∧ Below w.heap.size w w' := by
 obtain ⟨l, rfl, hs, hm, _, hz⟩ := strs_of w0
 have hn' : -9223372036854775808 ≤ nn := by
  simp [Lit.wf, IntKind.min, IntKind.max, IntKind.signed, IntKind.bits] at hn
  omega
 exact walk_in i nn hn' t ht l a0 cap0 w hs hm hz hV
end Go.Proofs.YtkfipamdfpknpaaDoor.fnExactWayOf

