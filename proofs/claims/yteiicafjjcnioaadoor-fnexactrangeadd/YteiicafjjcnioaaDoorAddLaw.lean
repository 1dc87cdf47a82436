/- The walk of the law on RangeAdd. -/
import Derived.Test.YteiicafjjcnioaaDoorRangeIn
import Derived.Test.YteiicafjjcnioaaDoorAddSpec
import Derived.Test.YteiicafjjcnioaaDoorAddYes
import Derived.Deep.RegionWith
import Derived.Deep.CutRange
namespace Go.Proofs.YteiicafjjcnioaaDoor.fnExactRangeAdd
open Go.RowKit
open Go.Proofs.YteiicafjjcnioaaDoor.St
open Go.Proofs.YteiicafjjcnioaaDoor.Tr
open Go.Proofs.YteiicafjjcnioaaDoor.Sh (Vars)

set_option maxRecDepth 100000 in
set_option maxHeartbeats 16000000 in
theorem walk_in (n : Int) (l : List ByteArray) (a : Option Addr) (cap : Nat) (t : ByteArray) (w : World) (hs : Strs w w.heap.size a l) (hn : l.length ≤ maxLen) (hz : ∀ s ∈ l, s.size ≤ maxLen) (ht : t.size ≤ maxLen) (hV : Vars w) :
    Calls Tryd.prog 16 #[.agg #[.int .i64 n, .slice a l.length cap], .string t] w fun e w' => e = .returned (.bool true) ∧ Below w.heap.size w w' := by
  have HS := hideT hs
  have HV := hideT hV
  have hv2 := hV.two
  have HZ := hideT (fun W (hW : Below w.heap.size w W) => szR_any n a cap l W ((HS.out.below hW).mono hW.size) hn hz)
  have HTo := hideT (fun W (hW : Below w.heap.size w W) (h : l.length ≤ 1048576) => toR_any n a cap l W ((HS.out.below hW).mono hW.size) h)
  have HI := hideT (fun (g : Nat) (W : World) (h : l.length ≤ 1048576) hx hV => add_impl n l t g 0 l.length W.heap.size W h ht hx (Nat.le_refl _) hV)
  have HP := hideT (fun (g : Nat) (W : World) (h : l.length ≤ 1048576) hx => add_spec n l t g 0 l.length W.heap.size W h ht hx (Nat.le_refl _))
  have HXl := hideT (fun (W : World) (g : Nat) (h : IsS W g 9 l) => (show RIn W g (g + 1) (.slice (some ⟨g, 0, none⟩) l.length l.length) l from ⟨h.inn l.length, h.lt⟩))
  have HQ := hideT (addR_len n l t)
  have HEx := hideT (fun (W : World) (lo hi lo' hi' : Nat) (u v : Option Addr) (c c' m m' : Nat) (h1 : RIn W lo hi (.slice u m c) l) (h2 : RIn W lo' hi' (.slice v m' c') l) (hm : l.length ≤ 1048576) => eqR_in n h1 h2 hm)
  have HMx := hideT (fun (W : World) (lo hi : Nat) (u : Option Addr) (c : Nat) (h1 : RIn W lo hi (.slice u l.length c) l) (hm : l.length ≤ 1048576) => markR_in n h1 rfl hm)
  clear hs hV hz
  unfold maxLen at hn ht
  obtain ⟨m, hm⟩ : ∃ m, m = l.length := ⟨_, rfl⟩
  rw [← hm] at hn HZ HTo HI HP HXl HQ HEx HMx ⊢
  clear hm
  obtain ⟨q, hq⟩ : ∃ q, q = addR n l t := ⟨_, rfl⟩
  obtain ⟨X, hX⟩ : ∃ X, X = addN n l t := ⟨_, rfl⟩
  rw [← hq] at HI HP HQ
  rw [← hX] at HI HP
  clear hq hX
  obtain ⟨ql, hql⟩ : ∃ ql, ql = q.length := ⟨_, rfl⟩
  have HQl := hideT hql
  rw [← hql] at HQ
  clear hql
  by_cases hbig : 1048576 < t.size
  · have hbi : (1048576 : Int) < (t.size : Int) := by omega
    go_enter Tryd.func16, Tryd.ntmps16
    go_wp2_with fail
    go_ret
    exact ⟨rfl, (Below.refl _ _).alloc (Nat.le_refl _) _⟩
  have hbi : decide ((1048576 : Int) < (t.size : Int)) = false := by simp; omega
  go_enter Tryd.func16, Tryd.ntmps16
  go_wp2_with fail
  refine (HZ.out _ ((Below.refl _ _).alloc (Nat.le_refl _) _)).mono ?_
  rintro e w1 ⟨r, rfl, hr, hb1⟩
  have B1 := hideT (below2 ((Below.refl _ _).alloc (Nat.le_refl _) _) hb1)
  have P1 := hideT ((Blk.new w (.int .i64 n) (.slice a m cap) 58).below hb1)
  have p0 := P1.out.c0
  have p1 := P1.out.c1
  clear hb1
  by_cases hneg : r < 0
  · go_wp2_with fail
    go_ret
    exact ⟨rfl, B1.out⟩
  have HN := hideT (hr (by omega)).1
  have HQN := hideT (HQ.out HN.out)
  have HQL : Hid (q.length ≤ 1048576) := by unfold Hid; rw [← HQl.out]; exact HQN.out
  have hz1 := P1.out.lt
  clear hr
  go_wp2_with fail

  refine (HTo.out w1 B1.out HN.out).mono ?_
  rintro e w2 ⟨g2, rfl, hg2, hi2, hb2⟩
  have S2 := hideT (hi2.strs hi2.lt)
  have P2 := hideT (P1.out.below hb2)
  have B2 := hideT (below2 B1.out hb2)
  have s2 := hb2.size
  clear hi2 hb2
  clear P1
  try clear p0 p1
  have p0 := P2.out.c0
  have p1 := P2.out.c1
  go_wp2_with fail
  refine (HP.out g2 w2 HN.out S2.out).mono ?_
  rintro e w3 ⟨v6, rfl, ho6, hb3⟩
  obtain ⟨a6, c6, hv6⟩ := own_slice HQl ho6
  subst hv6
  have V3 := hideT (show RIn w3 w2.heap.size w3.heap.size (.slice a6 ql c6) q from ⟨ho6.inn, Nat.le_refl _⟩)
  have P3 := hideT (P2.out.below hb3)
  have B3 := hideT (below2 B2.out hb3)
  have s3 := hb3.size
  clear ho6 hb3 S2
  clear P2
  try clear p0 p1
  have p0 := P3.out.c0
  have p1 := P3.out.c1
  obtain ⟨w4, hw4⟩ : ∃ w4, w4 = w3.alloc (.cells #[.int .i64 X, .slice a6 ql c6] 40) := ⟨_, rfl⟩
  have hb4 : Below w3.heap.size w3 w4 := by rw [hw4]; exact (Below.refl _ _).alloc (Nat.le_refl _) _
  have J4 : Hid (Blk w4 w3.heap.size (.int .i64 X) (.slice a6 ql c6) 40) := by unfold Hid; rw [hw4]; exact Blk.new _ _ _ _
  have P4 := hideT (P3.out.below hb4)
  have V4 := hideT (V3.out.below hb4)
  have B4 := hideT (below2 B3.out hb4)
  have s4 := hb4.size
  have t4 : w4.heap.size = w3.heap.size + 1 := by rw [hw4]; simp
  try clear p0 p1
  have p0 := P4.out.c0
  have p1 := P4.out.c1
  try clear j0 j1
  have j0 := J4.out.c0
  have j1 := J4.out.c1
  have p0' := p0
  have p1' := p1
  have j0' := j0
  have j1' := j1
  rw [hw4] at p0' p1' j0' j1'
  try simp at j0' j1'
  go_wp2_with fail
  rw [← hw4]
  clear p0' p1' hb4 hw4
  try clear j0' j1'
  clear P3 V3
  refine (HTo.out w4 B4.out HN.out).mono ?_
  rintro e w5 ⟨g5, rfl, hg5, hi5, hb5⟩
  have D5 := hideT (HXl.out _ _ hi5)
  have o5 : g5 + 1 ≤ w5.heap.size := D5.out.2
  have P5 := hideT (P4.out.below hb5)
  have J5 := hideT (J4.out.below hb5)
  have V5 := hideT (V4.out.below hb5)
  have B5 := hideT (below2 B4.out hb5)
  have s5 := hb5.size
  clear hi5 hb5
  clear P4 J4 V4
  try clear p0 p1
  have p0 := P5.out.c0
  have p1 := P5.out.c1
  try clear j0 j1
  have j0 := J5.out.c0
  have j1 := J5.out.c1
  obtain ⟨w6, hw6⟩ : ∃ w6, w6 = w5.alloc (.cells #[.int .i64 n, .slice (some ⟨g5, 0, none⟩) m m] 40) := ⟨_, rfl⟩
  have hb6 : Below w5.heap.size w5 w6 := by rw [hw6]; exact (Below.refl _ _).alloc (Nat.le_refl _) _
  have K6 : Hid (Blk w6 w5.heap.size (.int .i64 n) (.slice (some ⟨g5, 0, none⟩) m m) 40) := by unfold Hid; rw [hw6]; exact Blk.new _ _ _ _
  have P6 := hideT (P5.out.below hb6)
  have J6 := hideT (J5.out.below hb6)
  have V6 := hideT (V5.out.below hb6)
  have D6 := hideT (D5.out.below hb6)
  have B6 := hideT (below2 B5.out hb6)
  have s6 := hb6.size
  have t6 : w6.heap.size = w5.heap.size + 1 := by rw [hw6]; simp
  try clear p0 p1
  have p0 := P6.out.c0
  have p1 := P6.out.c1
  try clear j0 j1
  have j0 := J6.out.c0
  have j1 := J6.out.c1
  try clear k0 k1
  have k0 := K6.out.c0
  have k1 := K6.out.c1
  have p0' := p0
  have p1' := p1
  have j0' := j0
  have j1' := j1
  have k0' := k0
  have k1' := k1
  rw [hw6] at p0' p1' j0' j1' k0' k1'
  try simp at k0' k1'
  go_wp2_with fail
  rw [← hw6]
  clear p0' p1' j0' j1' hb6 hw6
  try clear k0' k1'
  clear P5 J5 V5 D5
  refine (HI.out g5 w6 HN.out ((slice_strs D6.out.1).2.mono D6.out.2) (HV.out.below B6.out hv2)).mono ?_
  rintro e w7 ⟨v8, rfl, ho8, hb7⟩
  obtain ⟨a8, c8, hv8⟩ := own_slice HQl ho8
  subst hv8
  have E7 := hideT (show RIn w7 w5.heap.size w7.heap.size (.slice a8 ql c8) q from ⟨OwnS.inn (ho8.mono (by omega)), Nat.le_refl _⟩)
  have P7 := hideT (P6.out.below hb7)
  have J7 := hideT (J6.out.below hb7)
  have K7 := hideT (K6.out.below hb7)
  have V7 := hideT (V6.out.below hb7)
  have D7 := hideT (D6.out.below hb7)
  have B7 := hideT (below2 B6.out hb7)
  have s7 := hb7.size
  clear ho8 hb7
  clear P6 J6 K6 V6 D6
  try clear p0 p1
  have p0 := P7.out.c0
  have p1 := P7.out.c1
  try clear j0 j1
  have j0 := J7.out.c0
  have j1 := J7.out.c1
  try clear k0 k1
  have k0 := K7.out.c0
  have k1 := K7.out.c1
  obtain ⟨w8, hw8⟩ : ∃ w8, w8 = w7.alloc (.cells #[.int .i64 X, .slice a8 ql c8] 40) := ⟨_, rfl⟩
  have hb8 : Below w7.heap.size w7 w8 := by rw [hw8]; exact (Below.refl _ _).alloc (Nat.le_refl _) _
  have L8 : Hid (Blk w8 w7.heap.size (.int .i64 X) (.slice a8 ql c8) 40) := by unfold Hid; rw [hw8]; exact Blk.new _ _ _ _
  have P8 := hideT (P7.out.below hb8)
  have J8 := hideT (J7.out.below hb8)
  have K8 := hideT (K7.out.below hb8)
  have V8 := hideT (V7.out.below hb8)
  have D8 := hideT (D7.out.below hb8)
  have E8 := hideT (E7.out.below hb8)
  have B8 := hideT (below2 B7.out hb8)
  have s8 := hb8.size
  have t8 : w8.heap.size = w7.heap.size + 1 := by rw [hw8]; simp
  try clear p0 p1
  have p0 := P8.out.c0
  have p1 := P8.out.c1
  try clear j0 j1
  have j0 := J8.out.c0
  have j1 := J8.out.c1
  try clear k0 k1
  have k0 := K8.out.c0
  have k1 := K8.out.c1
  try clear l0 l1
  have l0 := L8.out.c0
  have l1 := L8.out.c1
  have p0' := p0
  have p1' := p1
  have j0' := j0
  have j1' := j1
  have k0' := k0
  have k1' := k1
  have l0' := l0
  have l1' := l1
  rw [hw8] at p0' p1' j0' j1' k0' k1' l0' l1'
  try simp at l0' l1'
  go_wp2_with fail
  rw [← hw8]
  clear p0' p1' j0' j1' k0' k1' hb8 hw8
  try clear l0' l1'
  clear P7 J7 K7 V7 D7 E7
  refine (eqR_in X E8.out V8.out HQL.out).mono ?_
  rintro e w9 ⟨rfl, hb9⟩
  have P9 := hideT (P8.out.below hb9)
  have J9 := hideT (J8.out.below hb9)
  have K9 := hideT (K8.out.below hb9)
  have L9 := hideT (L8.out.below hb9)
  have V9 := hideT (V8.out.below hb9)
  have D9 := hideT (D8.out.below hb9)
  have E9 := hideT (E8.out.below hb9)
  have B9 := hideT (below2 B8.out hb9)
  have s9 := hb9.size
  clear hb9
  clear P8 J8 K8 L8 V8 D8 E8
  try clear p0 p1
  have p0 := P9.out.c0
  have p1 := P9.out.c1
  try clear j0 j1
  have j0 := J9.out.c0
  have j1 := J9.out.c1
  try clear k0 k1
  have k0 := K9.out.c0
  have k1 := K9.out.c1
  try clear l0 l1
  have l0 := L9.out.c0
  have l1 := L9.out.c1
  go_upto_region 12 with fail
  go_cut [38] from 34 to 37 (fun s38 wx => s38 = .bool false ∧ Below w9.heap.size w9 wx)
  case first =>
    go_region_with (first | (go_at_call 58; (with_reducible refine (HTo.out _ ?_ HN.out).mono ?_); (· exact B9.out.drew); rintro e w10 ⟨g10, rfl, hg10, hi10, hb10'⟩; have hb10 := (show Below w9.heap.size w9 w10 from ⟨hb10'.os, hb10'.tape, hb10'.output, hb10'.size, hb10'.block⟩); have Y10 := hideT (HXl.out _ _ hi10); have D10 := hideT (D9.out.below hb10); have k10 := (K9.out.below hb10).c0; have k11 := (K9.out.below hb10).c1; have HB10 := hideT hb10; clear hi10 hb10' hb10) | (go_at_call 59; (with_reducible refine (HEx.out w10 _ _ _ _ _ _ _ _ _ _ D10.out Y10.out HN.out).mono ?_); rintro e w11 ⟨rfl, hb11⟩; have HB11 := hideT (HB10.out.trans (hb11.mono HB10.out.size)); clear hb11))
    all_goals (go_wp2_with fail; go_meet; exact ⟨rfl, HB11.out⟩)
  obtain ⟨rfl, hb11⟩ := hcut
  have P11 := hideT (P9.out.below hb11)
  have J11 := hideT (J9.out.below hb11)
  have K11 := hideT (K9.out.below hb11)
  have L11 := hideT (L9.out.below hb11)
  have V11 := hideT (V9.out.below hb11)
  have D11 := hideT (D9.out.below hb11)
  have E11 := hideT (E9.out.below hb11)
  have B11 := hideT (below2 B9.out hb11)
  have s11 := hb11.size
  clear hb11
  clear P9 J9 K9 L9 V9 D9 E9
  try clear p0 p1
  have p0 := P11.out.c0
  have p1 := P11.out.c1
  try clear j0 j1
  have j0 := J11.out.c0
  have j1 := J11.out.c1
  try clear k0 k1
  have k0 := K11.out.c0
  have k1 := K11.out.c1
  try clear l0 l1
  have l0 := L11.out.c0
  have l1 := L11.out.c1
  go_wp2_with fail
  refine (HMx.out _ _ _ _ _ D11.out HN.out).mono ?_
  rintro e w12 ⟨rfl, hm12, gm12, hg12, ha12⟩
  have P12 := hideT (P11.out.aft ha12 (by omega))
  have J12 := hideT (J11.out.aft ha12 (by omega))
  have L12 := hideT (L11.out.aft ha12 (by omega))
  have V12 := hideT (V11.out.aft ha12 (by omega))
  have E12 := hideT (E11.out.aft ha12 (by omega))
  have B12 := hideT (Aft.below B11.out ha12 (by omega) B11.out.size)
  have s12 := ha12.2.2.2.1
  clear P11 J11 L11 V11 E11 D11 ha12 hg12 hm12
  try clear p0 p1
  have p0 := P12.out.c0
  have p1 := P12.out.c1
  try clear j0 j1
  have j0 := J12.out.c0
  have j1 := J12.out.c1
  try clear l0 l1
  have l0 := L12.out.c0
  have l1 := L12.out.c1
  have hpos : ¬ (1 + (m : Int)) < 0 := by omega
  go_wp2_with fail
  refine (eqR_in X E12.out V12.out HQL.out).mono ?_
  rintro e w13 ⟨rfl, hb13⟩
  have P13 := hideT (P12.out.below hb13)
  have J13 := hideT (J12.out.below hb13)
  have L13 := hideT (L12.out.below hb13)
  have V13 := hideT (V12.out.below hb13)
  have E13 := hideT (E12.out.below hb13)
  have B13 := hideT (below2 B12.out hb13)
  have s13 := hb13.size
  clear hb13
  clear P12 J12 L12 V12 E12
  try clear p0 p1
  have p0 := P13.out.c0
  have p1 := P13.out.c1
  try clear j0 j1
  have j0 := J13.out.c0
  have j1 := J13.out.c1
  try clear l0 l1
  have l0 := L13.out.c0
  have l1 := L13.out.c1
  go_wp2_with fail
  refine (markR_in X E13.out HQl.out HQN.out).mono ?_
  rintro e w14 ⟨rfl, hm14, gm14, hg14, ha14⟩
  have P14 := hideT (P13.out.aft ha14 (by omega))
  have J14 := hideT (J13.out.aft ha14 (by omega))
  have L14 := hideT (L13.out.aft ha14 (by omega))
  have V14 := hideT (V13.out.aft ha14 (by omega))
  have B14 := hideT (Aft.below B13.out ha14 (by omega) B13.out.size)
  have s14 := ha14.2.2.2.1
  have M14 := hideT hm14
  clear P13 J13 L13 V13 E13 ha14 hg14 hm14
  try clear p0 p1
  have p0 := P14.out.c0
  have p1 := P14.out.c1
  try clear j0 j1
  have j0 := J14.out.c0
  have j1 := J14.out.c1
  try clear l0 l1
  have l0 := L14.out.c0
  have l1 := L14.out.c1
  have hpos2 : ¬ (1 + (ql : Int)) < 0 := by omega
  go_wp2_with fail
  refine (heldR_in X M14.out HQN.out).mono ?_
  rintro e w15 ⟨rfl, hb15⟩
  have P15 := hideT (P14.out.below hb15)
  have J15 := hideT (J14.out.below hb15)
  have L15 := hideT (L14.out.below hb15)
  have V15 := hideT (V14.out.below hb15)
  have M15 := hideT (M14.out.below hb15)
  have B15 := hideT (below2 B14.out hb15)
  have s15 := hb15.size
  clear hb15
  clear P14 J14 L14 V14 M14
  try clear p0 p1
  have p0 := P15.out.c0
  have p1 := P15.out.c1
  try clear j0 j1
  have j0 := J15.out.c0
  have j1 := J15.out.c1
  try clear l0 l1
  have l0 := L15.out.c0
  have l1 := L15.out.c1
  go_wp2_with fail
  refine (HTo.out w15 B15.out HN.out).mono ?_
  rintro e w16 ⟨g16, rfl, hg16, hi16, hb16⟩
  have S16 := hideT (hi16.strs hi16.lt)
  have P16 := hideT (P15.out.below hb16)
  have J16 := hideT (J15.out.below hb16)
  have L16 := hideT (L15.out.below hb16)
  have V16 := hideT (V15.out.below hb16)
  have M16 := hideT (M15.out.below hb16)
  have B16 := hideT (below2 B15.out hb16)
  have s16 := hb16.size
  clear hi16 hb16
  clear P15 J15 L15 V15 M15
  try clear p0 p1
  have p0 := P16.out.c0
  have p1 := P16.out.c1
  try clear j0 j1
  have j0 := J16.out.c0
  have j1 := J16.out.c1
  try clear l0 l1
  have l0 := L16.out.c0
  have l1 := L16.out.c1
  go_wp2_with fail
  refine (HI.out g16 w16 HN.out S16.out (HV.out.below B16.out hv2)).mono ?_
  rintro e w17 ⟨v9, rfl, ho9, hb17⟩
  obtain ⟨a9, c9, hv9⟩ := own_slice HQl ho9
  subst hv9
  have G17 := hideT (show RIn w17 w16.heap.size w17.heap.size (.slice a9 ql c9) q from ⟨ho9.inn, Nat.le_refl _⟩)
  have P17 := hideT (P16.out.below hb17)
  have J17 := hideT (J16.out.below hb17)
  have L17 := hideT (L16.out.below hb17)
  have V17 := hideT (V16.out.below hb17)
  have M17 := hideT (M16.out.below hb17)
  have B17 := hideT (below2 B16.out hb17)
  have s17 := hb17.size
  clear ho9 hb17 S16
  clear P16 J16 L16 V16 M16
  try clear p0 p1
  have p0 := P17.out.c0
  have p1 := P17.out.c1
  try clear j0 j1
  have j0 := J17.out.c0
  have j1 := J17.out.c1
  try clear l0 l1
  have l0 := L17.out.c0
  have l1 := L17.out.c1
  obtain ⟨w18, hw18⟩ : ∃ w18, w18 = w17.alloc (.cells #[.int .i64 X, .slice a9 ql c9] 40) := ⟨_, rfl⟩
  have hb18 : Below w17.heap.size w17 w18 := by rw [hw18]; exact (Below.refl _ _).alloc (Nat.le_refl _) _
  have N18 : Hid (Blk w18 w17.heap.size (.int .i64 X) (.slice a9 ql c9) 40) := by unfold Hid; rw [hw18]; exact Blk.new _ _ _ _
  have P18 := hideT (P17.out.below hb18)
  have J18 := hideT (J17.out.below hb18)
  have L18 := hideT (L17.out.below hb18)
  have V18 := hideT (V17.out.below hb18)
  have M18 := hideT (M17.out.below hb18)
  have G18 := hideT (G17.out.below hb18)
  have B18 := hideT (below2 B17.out hb18)
  have s18 := hb18.size
  have t18 : w18.heap.size = w17.heap.size + 1 := by rw [hw18]; simp
  try clear p0 p1
  have p0 := P18.out.c0
  have p1 := P18.out.c1
  try clear j0 j1
  have j0 := J18.out.c0
  have j1 := J18.out.c1
  try clear l0 l1
  have l0 := L18.out.c0
  have l1 := L18.out.c1
  try clear n0 n1
  have n0 := N18.out.c0
  have n1 := N18.out.c1
  have p0' := p0
  have p1' := p1
  have j0' := j0
  have j1' := j1
  have l0' := l0
  have l1' := l1
  have n0' := n0
  have n1' := n1
  rw [hw18] at p0' p1' j0' j1' l0' l1' n0' n1'
  try simp at n0' n1'
  go_wp2_with fail
  rw [← hw18]
  clear p0' p1' j0' j1' l0' l1' hb18 hw18
  try clear n0' n1'
  clear P17 J17 L17 V17 M17 G17
  refine (eqR_in X G18.out V18.out HQL.out).mono ?_
  rintro e w19 ⟨rfl, hb19⟩
  have P19 := hideT (P18.out.below hb19)
  have J19 := hideT (J18.out.below hb19)
  have L19 := hideT (L18.out.below hb19)
  have N19 := hideT (N18.out.below hb19)
  have V19 := hideT (V18.out.below hb19)
  have M19 := hideT (M18.out.below hb19)
  have G19 := hideT (G18.out.below hb19)
  have B19 := hideT (below2 B18.out hb19)
  have s19 := hb19.size
  clear hb19
  clear P18 J18 L18 N18 V18 M18 G18
  try clear p0 p1
  have p0 := P19.out.c0
  have p1 := P19.out.c1
  try clear j0 j1
  have j0 := J19.out.c0
  have j1 := J19.out.c1
  try clear l0 l1
  have l0 := L19.out.c0
  have l1 := L19.out.c1
  try clear n0 n1
  have n0 := N19.out.c0
  have n1 := N19.out.c1
  go_wp2_with fail
  refine (heldR_in X M19.out HQN.out).mono ?_
  rintro e w20 ⟨rfl, hb20⟩
  have B20 := hideT (below2 B19.out hb20)
  clear hb20
  go_wp2_with fail
  go_ret
  exact ⟨rfl, B20.out⟩

theorem walk (n : Int) (a0 : Option Addr) (len0 cap0 : Nat) (z0 : List ByteArray) {w : World} (w0 : IsStrs w a0 len0 cap0 z0) (t : ByteArray) (ht : t.size ≤ maxLen) (hV : Vars w) :
    Calls Tryd.prog 16 #[.agg #[.int .i64 n, .slice a0 len0 cap0], .string t] w fun e w' => e = .returned (.bool true) ∧ Below w.heap.size w w' := by
  obtain ⟨l, rfl, hs, hm, _, hz⟩ := strs_of w0
  exact walk_in n l a0 cap0 t w hs hm hz ht hV
end Go.Proofs.YteiicafjjcnioaaDoor.fnExactRangeAdd
