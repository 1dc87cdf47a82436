/- Texts put together: SoMrgLT, SoMrgT, SoStabT, SoSorted, ZeroApp, ZeroWalks, ZeroTop. -/
import Derived.Test.YthbpenanelbbcaaGreatDoorBz34
import Derived.Test.YthbpenanelbbcaaGreatDoorBz22
import Derived.Test.YthbpenanelbbcaaGreatDoorBz25
import Derived.Test.YthbpenanelbbcaaGreatDoorBz26
import Derived.Test.YthbpenanelbbcaaGreatDoorBz9
import Derived.Test.YthbpenanelbbcaaGreatDoorBz18
import Derived.Test.YthbpenanelbbcaaGreatDoorBz30
/- The walk of a merge in place at turns: both parts longer than one, the middle not within the first part. -/
namespace Go.Proofs.YthbpenanelbbcaaGreatDoor.So
open Go.RowKit Go.Sort Go.Proofs
set_option maxRecDepth 100000 in
set_option maxHeartbeats 8000000 in
theorem mergeL_T (T : Nat → ByteArray) (blk cap a m b : Nat) (d : Array Nat) (w : World) (hH : HoldsK (encT T) 2 w blk 0 d) (hblk : blk < w.heap.size) (ham : a + 1 < m) (hmb : m + 1 < b) (hb : b ≤ d.size) (hsz : d.size ≤ 1048576)
  (hr1 : Ris (clT T) a m (dF d)) (hr2 : Ris (clT T) m b (dF d)) (hsep : Sep a m b (dF d)) (hmid : m ≤ (a + b) / 2)
  (IH : ∀ (a' m' b' : Nat) (d' : Array Nat) (W : World), b' - a' < b - a → HoldsK (encT T) 2 W blk 0 d' → blk < W.heap.size → a' < m' → m' < b' → b' ≤ d'.size → d'.size ≤ 1048576 → Ris (clT T) a' m' (dF d') → Ris (clT T) m' b' (dF d') → Sep a' m' b' (dF d') →
   Calls Tryz.prog 154 #[.slice (some ⟨blk, 0, none⟩) d'.size cap, .int .i64 a', .int .i64 m', .int .i64 b', .func (.func 108) #[] #[]] W fun e w' =>
    e = .returned (.tuple #[]) ∧ ∃ n d'' os, w' = sortWorldK (encT T) 2 W blk 0 n d'' os ∧ d''.size = d'.size ∧ PermF a' b' (dF d') (dF d'') ∧ Ris (clT T) a' b' (dF d'')) :
  Calls Tryz.prog 154 #[.slice (some ⟨blk, 0, none⟩) d.size cap, .int .i64 a, .int .i64 m, .int .i64 b, .func (.func 108) #[] #[]] w fun e w' =>
   e = .returned (.tuple #[]) ∧ ∃ n d' os, w' = sortWorldK (encT T) 2 w blk 0 n d' os ∧ d'.size = d.size ∧ PermF a b (dF d) (dF d') ∧ Ris (clT T) a b (dF d') := by
 have mixed := mixed
 have HST := hideO (world_self hH)
 have HH := hideO hH
 have HR1 := hideO hr1
 have HR2 := hideO hr2
 have HSP := hideO hsep
 have HIH := hideO IH
 clear hH hr1 hr2 hsep IH
 obtain ⟨z, hz⟩ : ∃ z, z = d.size := ⟨_, rfl⟩
 have HZ := hideO hz
 rw [← hz] at hb hsz ⊢
 clear hz
 obtain ⟨f, hf⟩ : ∃ f, f = dF d := ⟨_, rfl⟩
 have HFD := hideO hf
 rw [← hf] at HR1 HR2 HSP ⊢
 clear hf
 obtain ⟨mid, hmd⟩ : ∃ mid, mid = (a + b) / 2 := ⟨_, rfl⟩
 obtain ⟨nn, hnn⟩ : ∃ nn, nn = mid + m := ⟨_, rfl⟩
 obtain ⟨p, hp⟩ : ∃ p, nn = p + 1 := ⟨nn - 1, by omega⟩
 obtain ⟨s0, hs0⟩ : ∃ s0, s0 = a := ⟨_, rfl⟩
 have em : ((a : Int) + (b : Int)) / 2 = (mid : Int) := by omega
 have en : (mid : Int) + (m : Int) = (nn : Int) := by omega
 have ep : (nn : Int) - 1 = (p : Int) := by omega
 have es : s0 = a := hs0
 have hma : ((m : Int) - (a : Int) == 1) = false := beq_eq_false_iff_ne.2 (by omega)
 have hbm : ((b : Int) - (m : Int) == 1) = false := beq_eq_false_iff_ne.2 (by omega)
 have hmm : ¬ (mid : Int) < (m : Int) := by omega
 have HREL : Hid (2 * mid ≤ a + b ∧ a + b ≤ 2 * mid + 1 ∧ nn = mid + m ∧ nn = p + 1 ∧ s0 = a ∧ m ≤ mid) := by
  unfold Hid
  omega
 have hmz : mid < z := by omega
 have hpz : p < 2 * z := by omega
 have hmw : IntKind.i64.wrap (mid : Int) = (mid : Int) := by rw [IntKind.wrap_i64]; omega
 clear hmd hnn hp hs0 hmid es
 go_enter Tryz.func154, Tryz.ntmps154
 go_wp2_with fail
 clear em en hma hbm
 go_loopw [20, 21] (fun u v wr => ∃ (i j n : Nat) (os : Array Obj), u = .int .i64 i ∧ v = .int .i64 j ∧ s0 ≤ i ∧ i ≤ j ∧ j ≤ m ∧ (s0 < i → lx (clT T) (f (i - 1)) (f (p - (i - 1)))) ∧ (j < m → lx (clT T) (f (p - j)) (f j)) ∧ wr = sortWorldK (encT T) 2 w blk 0 n d os) (fun u v _ => (intOf v).toNat - (intOf u).toNat)
 case atStart =>
  have hrel := HREL.out
  exact ⟨a, m, 0, #[], rfl, rfl, by omega, by omega, Nat.le_refl _, fun h => absurd h (by omega), fun h => absurd h (by omega), HST.out⟩
 case round =>
  obtain ⟨i, j, n, os, rfl, rfl, hsi, hij, hjr, hlo, hhi, hwr⟩ := hrel
  have hrel := HREL.out
  have HLO := hideO hlo
  have HHI := hideO hhi
  have HW := hideO hwr
  clear hlo hhi
  by_cases hlt : i < j
  ·obtain ⟨c, hc⟩ : ∃ c, c = (i + j) / 2 := ⟨_, rfl⟩
   obtain ⟨q, hq⟩ : ∃ q, p = q + c := ⟨p - c, by omega⟩
   have e1 : ((i : Int) + (j : Int)) / 2 = (c : Int) := by omega
   have e2 : (p : Int) - (c : Int) = (q : Int) := by omega
   have hic : i ≤ c := by omega
   have hcj : c < j := by omega
   have hcm : c < m := by omega
   have hac : a ≤ c := by omega
   have hmq : m ≤ q := by omega
   have hqb : q < b := by omega
   have hHj : HoldsK (encT T) 2 wr blk 0 d := by rw [hwr]; exact world_holds HH.out hblk n d os rfl
   have hbw : blk < wr.heap.size := by rw [hwr]; exact Nat.lt_of_lt_of_le hblk (world_size n d os)
   obtain ⟨x0c, x0f, x1c, x1f⟩ := cells_T hHj (i := q) (by have := HZ.out; omega)
   obtain ⟨y0c, y0f, y1c, y1f⟩ := cells_T hHj (i := c) (by have := HZ.out; omega)
   obtain ⟨x, hx⟩ : ∃ x, x = d[q]! := ⟨_, rfl⟩
   obtain ⟨y, hy⟩ : ∃ y, y = d[c]! := ⟨_, rfl⟩
   have HXY : Hid (x = f q ∧ y = f c) := ⟨by rw [hx, HFD.out]; rfl, by rw [hy, HFD.out]; rfl⟩
   rw [← hx] at x0c x1c
   rw [← hy] at y0c y1c
   have g0 := fun n' os' => cell_grown (a := ⟨blk, q * 2, none⟩) hbw x0c n' os'
   have g1 := fun n' os' => cell_grown (a := ⟨blk, q * 2 + 1, none⟩) hbw x1c n' os'
   have g2 := fun n' os' => cell_grown (a := ⟨blk, c * 2, none⟩) hbw y0c n' os'
   have g3 := fun n' os' => cell_grown (a := ⟨blk, c * 2 + 1, none⟩) hbw y1c n' os'
   have HCM : Hid (∀ W, Calls Tryz.prog 108 #[.agg #[.int .i64 x, .string (T x)], .agg #[.int .i64 y, .string (T y)]] W fun e w' => e = .returned (.int .i64 (cfT T x y)) ∧ ∃ q os', w' = grow (W.drewN q) os') := fun W => cmp_T T x y W
   have hneg := cfT_neg T x y
   obtain ⟨r, hr⟩ : ∃ r, r = cfT T x y := ⟨_, rfl⟩
   rw [← hr] at hneg HCM
   have hz1 : (q : Int) < (z : Int) := by omega
   have hz2 : (c : Int) < (z : Int) := by omega
   have hqw : IntKind.i64.wrap (q : Int) = (q : Int) := by rw [IntKind.wrap_i64]; omega
   have HCLS := hideO (fun n' os' => sortWorldK_grown_c (encT T) 2 w blk 0 n n' d os os')
   rw [← hwr] at HCLS
   have HQC : Hid (p - c = q) := by
    unfold Hid
    omega
   clear hr hx hy hwr hc hq x0c x0f x1c x1f y0c y0f y1c y1f hHj hbw hrel
   cases hcb : clT T x y with
   | false =>
    rw [hcb] at hneg
    have hlv : ¬ r < 0 := of_decide_eq_false hneg
    have hlv' : decide (r < 0) = false := hneg
    have HL2 : Hid (lx (clT T) (f c) (f (p - c))) := by
     unfold Hid
     rw [HQC.out]
     have hpl := HSP.out c q hac hcm hmq hqb
     rw [← HXY.out.1, ← HXY.out.2] at hpl ⊢
     exact lx_no hcb hpl
    clear hneg
    go_wp2_with fail
    go_quiet_grown (first | (go_at_call 108; refine Calls.grown_of (HCM.out _)))
    have HW2 : Hid (grow (wr.drewN nq) osq = sortWorldK (encT T) 2 w blk 0 (n + nq) d (os ++ osq)) := HCLS.out nq osq
    dsimp only
    clear g0 g1 g2 g3
    go_wp2_with fail
    go_roundw
    case rel => exact ⟨c + 1, j, n + nq, os ++ osq, by go_num, rfl, by omega, by omega, hjr, fun _ => HL2.out, HHI.out, HW2.out⟩
    case measure => simp [intOf]; omega
   | true =>
    rw [hcb] at hneg
    have hlv : r < 0 := of_decide_eq_true hneg
    have hlv' : decide (r < 0) = true := hneg
    have HL2 : Hid (lx (clT T) (f (p - c)) (f c)) := by
     unfold Hid
     rw [HQC.out, ← HXY.out.1, ← HXY.out.2]
     exact lx_yes hcb
    clear hneg
    go_wp2_with fail
    go_quiet_grown (first | (go_at_call 108; refine Calls.grown_of (HCM.out _)))
    have HW2 : Hid (grow (wr.drewN nq) osq = sortWorldK (encT T) 2 w blk 0 (n + nq) d (os ++ osq)) := HCLS.out nq osq
    dsimp only
    clear g0 g1 g2 g3
    go_wp2_with fail
    go_roundw
    case rel => exact ⟨i, c, n + nq, os ++ osq, rfl, rfl, hsi, by omega, by omega, HLO.out, fun _ => HL2.out, HW2.out⟩
    case measure => simp [intOf]; omega
  ·obtain rfl : i = j := by omega
   obtain ⟨e, he⟩ : ∃ e, nn = e + i := ⟨nn - i, by omega⟩
   have ee : (nn : Int) - (i : Int) = (e : Int) := by omega
   have hcut : Cut (clT T) a m b mid i e f := by
    refine ⟨by omega, by omega, by omega, by omega, by omega, by omega, by omega, fun h1 h2 => ?_, fun h1 h2 => ?_⟩
    ·have := HLO.out (by omega)
     rwa [show p - (i - 1) = e by omega] at this
    ·have := HHI.out (by omega)
     rwa [show p - i = e - 1 by omega] at this
   have HC := hideO hcut
   have HRL : Hid (a ≤ i ∧ i ≤ mid ∧ mid ≤ e ∧ e ≤ b ∧ i ≤ m ∧ m ≤ e ∧ i + e = mid + m) := ⟨hcut.as, hcut.smid, hcut.mide, hcut.eb, hcut.sm, hcut.me, hcut.sum⟩
   have HBM : Hid (mid - a < b - a ∧ b - mid < b - a ∧ a < mid ∧ mid < b) := by
    unfold Hid
    omega
   have hez : e ≤ z := by have := hcut.eb; omega
   have hew : IntKind.i64.wrap (e : Int) = (e : Int) := by rw [IntKind.wrap_i64]; omega
   have hiz : i ≤ z := by have := hcut.sm; omega
   have HG0 : Hid (dF d = f) := HFD.out.symm
   clear he hcut hlt hij hsi hjr hrel
   have HWc := HW
   have hwz : Hid (d.size = z) := HZ.out.symm
   by_cases k0 : a < i
   ·by_cases k1 : i < mid
    ·by_cases k2 : i < m
     ·by_cases k3 : e < b
      ·have pim : (i : Int) < (m : Int) := by have := HRL.out; omega
       have him : decide ((i : Int) < (m : Int)) = true := decide_eq_true pim
       have pme : (m : Int) < (e : Int) := by have := HRL.out; omega
       have hme : decide ((m : Int) < (e : Int)) = true := decide_eq_true pme
       have pai : (a : Int) < (i : Int) := by have := HRL.out; omega
       have hai : decide ((a : Int) < (i : Int)) = true := decide_eq_true pai
       have pimid : (i : Int) < (mid : Int) := by have := HRL.out; omega
       have himid : decide ((i : Int) < (mid : Int)) = true := decide_eq_true pimid
       have pmide : (mid : Int) < (e : Int) := by have := HRL.out; omega
       have hmide : decide ((mid : Int) < (e : Int)) = true := decide_eq_true pmide
       have peb : (e : Int) < (b : Int) := by have := HRL.out; omega
       have heb : decide ((e : Int) < (b : Int)) = true := decide_eq_true peb
       obtain ⟨g, hg⟩ : ∃ g, g = rotF i m e f := ⟨_, rfl⟩
       have HGE := hideO hg
       have HPG : Hid (PermF a b f g) := by rw [hg]; exact HC.out.perm
       have HA1 : Hid (Ris (clT T) a i g) := by rw [hg]; exact HC.out.ris1 HR1.out
       have HB1 : Hid (Ris (clT T) i mid g) := by rw [hg]; exact HC.out.ris2 HR2.out
       have HA2 : Hid (Ris (clT T) mid e g) := by rw [hg]; exact HC.out.ris3 HR1.out
       have HB2 : Hid (Ris (clT T) e b g) := by rw [hg]; exact HC.out.ris4 HR2.out
       have HS1 : Hid (Sep a i mid g) := by rw [hg]; exact HC.out.sep1 HSP.out
       have HS2 : Hid (Sep mid e b g) := by rw [hg]; exact HC.out.sep2 HSP.out
       have HX : Hid (∀ u v, a ≤ u → u < mid → mid ≤ v → v < b → lx (clT T) (g u) (g v)) := by rw [hg]; exact HC.out.cross (clT_weak T) HR1.out HR2.out
       clear hg hwr
       have HK1 := hideO (rotate_T T blk cap i m e d wr (.func (.func 108) #[] #[]) (by rw [HW.out]; exact world_holds HH.out hblk n d os rfl) (by rw [HW.out]; exact Nat.lt_of_lt_of_le hblk (world_size n d os)) (by have := HRL.out; omega) (by have := HRL.out; omega) (by rw [hwz.out]; exact hez) (by rw [hwz.out]; exact hsz))
       rw [hwz.out] at HK1
       go_wp2_with fail
       refine HK1.out.mono ?_
       rintro er w1 ⟨rfl, n1, d1, hw1, hs1, hf1⟩
       have HW1 : Hid (w1 = sortWorldK (encT T) 2 w blk 0 (n + n1) d1 (os ++ #[])) := by
        unfold Hid
        rw [hw1, HW.out]
        exact world_world n n1 d d1 os #[] hblk (hs1.trans hwz.out.symm)
       have HS1' : Hid (d1.size = z) := hs1
       have HG1 : Hid (dF d1 = g) := by
        unfold Hid
        rw [hf1, HG0.out, HGE.out]
       clear hw1 hs1 hf1 HK1
       have HK2 := hideO (HIH.out a i mid d1 w1 HBM.out.1 (by rw [HW1.out]; exact world_holds HH.out hblk (n + n1) d1 (os ++ #[]) (HS1'.out.trans HZ.out)) (by rw [HW1.out]; exact Nat.lt_of_lt_of_le hblk (world_size (n + n1) d1 (os ++ #[]))) (by have := HRL.out; omega) (by have := HRL.out; omega) (by rw [HS1'.out]; omega) (by rw [HS1'.out]; exact hsz) (by rw [HG1.out]; exact HA1.out) (by rw [HG1.out]; exact HB1.out) (by rw [HG1.out]; exact HS1.out))
       rw [HS1'.out] at HK2
       go_wp2_with fail
       refine HK2.out.mono ?_
       rintro er w2 ⟨rfl, n2, d2, os2, hw2, hs2, hp2, hr2⟩
       have HW2 : Hid (w2 = sortWorldK (encT T) 2 w blk 0 ((n + n1) + n2) d2 ((os ++ #[]) ++ os2)) := by
        unfold Hid
        rw [hw2, HW1.out]
        exact world_world (n + n1) n2 d1 d2 (os ++ #[]) os2 hblk (hs2.trans HS1'.out.symm)
       have HS2' : Hid (d2.size = z) := hs2
       rw [HG1.out] at hp2
       have HP2 := hideO hp2
       have HR2' := hideO hr2
       clear hw2 hs2 hp2 hr2 HK2
       have HE2 : Hid (∀ k, mid ≤ k → dF d2 k = g k) := fun k hk => HP2.out.2 k (Or.inr hk)
       have HK3 := hideO (HIH.out mid e b d2 w2 HBM.out.2.1 (by rw [HW2.out]; exact world_holds HH.out hblk ((n + n1) + n2) d2 ((os ++ #[]) ++ os2) (HS2'.out.trans HZ.out)) (by rw [HW2.out]; exact Nat.lt_of_lt_of_le hblk (world_size ((n + n1) + n2) d2 ((os ++ #[]) ++ os2))) (by have := HRL.out; omega) (by have := HRL.out; omega) (by rw [HS2'.out]; omega) (by rw [HS2'.out]; exact hsz) (HA2.out.congr (fun k h1 _ => HE2.out k h1)) (HB2.out.congr (fun k h1 _ => HE2.out k (by have := HRL.out; omega))) (fun u v h1 h2 h3 h4 => by rw [HE2.out u h1, HE2.out v (by omega)]; exact HS2.out u v h1 h2 h3 h4))
       rw [HS2'.out] at HK3
       go_wp2_with fail
       refine HK3.out.mono ?_
       rintro er w3 ⟨rfl, n3, d3, os3, hw3, hs3, hp3, hr3⟩
       have HW3 : Hid (w3 = sortWorldK (encT T) 2 w blk 0 (((n + n1) + n2) + n3) d3 (((os ++ #[]) ++ os2) ++ os3)) := by
        unfold Hid
        rw [hw3, HW2.out]
        exact world_world ((n + n1) + n2) n3 d2 d3 ((os ++ #[]) ++ os2) os3 hblk (hs3.trans HS2'.out.symm)
       have HS3' : Hid (d3.size = z) := hs3
       have HFIN := hideO (halves HX.out (Nat.le_of_lt HBM.out.2.2.1) (Nat.le_of_lt HBM.out.2.2.2) HP2.out hp3 HR2'.out hr3)
       clear hw3 hs3 hp3 hr3 HK3
       go_wp2_with fail
       refine bodyPost_end (v := .tuple #[]) (by simp [results, Tryz.results154, go_sem]) rfl ⟨rfl, (((n + n1) + n2) + n3), d3, (((os ++ #[]) ++ os2) ++ os3), HW3.out, HS3'.out, HPG.out.trans HFIN.out.1, HFIN.out.2⟩
      ·have pim : (i : Int) < (m : Int) := by have := HRL.out; omega
       have him : decide ((i : Int) < (m : Int)) = true := decide_eq_true pim
       have pme : (m : Int) < (e : Int) := by have := HRL.out; omega
       have hme : decide ((m : Int) < (e : Int)) = true := decide_eq_true pme
       have pai : (a : Int) < (i : Int) := by have := HRL.out; omega
       have hai : decide ((a : Int) < (i : Int)) = true := decide_eq_true pai
       have pimid : (i : Int) < (mid : Int) := by have := HRL.out; omega
       have himid : decide ((i : Int) < (mid : Int)) = true := decide_eq_true pimid
       have pmide : (mid : Int) < (e : Int) := by have := HRL.out; omega
       have hmide : decide ((mid : Int) < (e : Int)) = true := decide_eq_true pmide
       have peb : ¬ (e : Int) < (b : Int) := by have := HRL.out; omega
       have heb : decide ((e : Int) < (b : Int)) = false := decide_eq_false peb
       obtain ⟨g, hg⟩ : ∃ g, g = rotF i m e f := ⟨_, rfl⟩
       have HGE := hideO hg
       have HPG : Hid (PermF a b f g) := by rw [hg]; exact HC.out.perm
       have HA1 : Hid (Ris (clT T) a i g) := by rw [hg]; exact HC.out.ris1 HR1.out
       have HB1 : Hid (Ris (clT T) i mid g) := by rw [hg]; exact HC.out.ris2 HR2.out
       have HA2 : Hid (Ris (clT T) mid e g) := by rw [hg]; exact HC.out.ris3 HR1.out
       have HB2 : Hid (Ris (clT T) e b g) := by rw [hg]; exact HC.out.ris4 HR2.out
       have HS1 : Hid (Sep a i mid g) := by rw [hg]; exact HC.out.sep1 HSP.out
       have HS2 : Hid (Sep mid e b g) := by rw [hg]; exact HC.out.sep2 HSP.out
       have HX : Hid (∀ u v, a ≤ u → u < mid → mid ≤ v → v < b → lx (clT T) (g u) (g v)) := by rw [hg]; exact HC.out.cross (clT_weak T) HR1.out HR2.out
       clear hg hwr
       have HK1 := hideO (rotate_T T blk cap i m e d wr (.func (.func 108) #[] #[]) (by rw [HW.out]; exact world_holds HH.out hblk n d os rfl) (by rw [HW.out]; exact Nat.lt_of_lt_of_le hblk (world_size n d os)) (by have := HRL.out; omega) (by have := HRL.out; omega) (by rw [hwz.out]; exact hez) (by rw [hwz.out]; exact hsz))
       rw [hwz.out] at HK1
       go_wp2_with fail
       refine HK1.out.mono ?_
       rintro er w1 ⟨rfl, n1, d1, hw1, hs1, hf1⟩
       have HW1 : Hid (w1 = sortWorldK (encT T) 2 w blk 0 (n + n1) d1 (os ++ #[])) := by
        unfold Hid
        rw [hw1, HW.out]
        exact world_world n n1 d d1 os #[] hblk (hs1.trans hwz.out.symm)
       have HS1' : Hid (d1.size = z) := hs1
       have HG1 : Hid (dF d1 = g) := by
        unfold Hid
        rw [hf1, HG0.out, HGE.out]
       clear hw1 hs1 hf1 HK1
       have HK2 := hideO (HIH.out a i mid d1 w1 HBM.out.1 (by rw [HW1.out]; exact world_holds HH.out hblk (n + n1) d1 (os ++ #[]) (HS1'.out.trans HZ.out)) (by rw [HW1.out]; exact Nat.lt_of_lt_of_le hblk (world_size (n + n1) d1 (os ++ #[]))) (by have := HRL.out; omega) (by have := HRL.out; omega) (by rw [HS1'.out]; omega) (by rw [HS1'.out]; exact hsz) (by rw [HG1.out]; exact HA1.out) (by rw [HG1.out]; exact HB1.out) (by rw [HG1.out]; exact HS1.out))
       rw [HS1'.out] at HK2
       go_wp2_with fail
       refine HK2.out.mono ?_
       rintro er w2 ⟨rfl, n2, d2, os2, hw2, hs2, hp2, hr2⟩
       have HW2 : Hid (w2 = sortWorldK (encT T) 2 w blk 0 ((n + n1) + n2) d2 ((os ++ #[]) ++ os2)) := by
        unfold Hid
        rw [hw2, HW1.out]
        exact world_world (n + n1) n2 d1 d2 (os ++ #[]) os2 hblk (hs2.trans HS1'.out.symm)
       have HS2' : Hid (d2.size = z) := hs2
       rw [HG1.out] at hp2
       have HP2 := hideO hp2
       have HR2' := hideO hr2
       clear hw2 hs2 hp2 hr2 HK2
       have HR3 : Hid (Ris (clT T) mid b (dF d2)) := by
        unfold Hid
        have hr := HRL.out
        refine Ris.congr (f := g) ?_ (fun k h1 _ => HP2.out.2 k (Or.inr h1))
        exact HA2.out.sub (Nat.le_refl _) (by omega)
       have HFIN := hideO (halves HX.out (Nat.le_of_lt HBM.out.2.2.1) (Nat.le_of_lt HBM.out.2.2.2) HP2.out (PermF.refl mid b (dF d2)) HR2'.out HR3.out)
       go_wp2_with fail
       refine bodyPost_end (v := .tuple #[]) (by simp [results, Tryz.results154, go_sem]) rfl ⟨rfl, ((n + n1) + n2), d2, ((os ++ #[]) ++ os2), HW2.out, HS2'.out, HPG.out.trans HFIN.out.1, HFIN.out.2⟩
     ·by_cases k3 : e < b
      ·have pim : ¬ (i : Int) < (m : Int) := by have := HRL.out; omega
       have him : decide ((i : Int) < (m : Int)) = false := decide_eq_false pim
       have pme : (m : Int) < (e : Int) := by have := HRL.out; omega
       have hme : decide ((m : Int) < (e : Int)) = true := decide_eq_true pme
       have pai : (a : Int) < (i : Int) := by have := HRL.out; omega
       have hai : decide ((a : Int) < (i : Int)) = true := decide_eq_true pai
       have pimid : (i : Int) < (mid : Int) := by have := HRL.out; omega
       have himid : decide ((i : Int) < (mid : Int)) = true := decide_eq_true pimid
       have pmide : ¬ (mid : Int) < (e : Int) := by have := HRL.out; omega
       have hmide : decide ((mid : Int) < (e : Int)) = false := decide_eq_false pmide
       have peb : (e : Int) < (b : Int) := by have := HRL.out; omega
       have heb : decide ((e : Int) < (b : Int)) = true := decide_eq_true peb
       obtain ⟨g, hg⟩ : ∃ g, g = rotF i m e f := ⟨_, rfl⟩
       have HGE := hideO hg
       have HPG : Hid (PermF a b f g) := by rw [hg]; exact HC.out.perm
       have HA1 : Hid (Ris (clT T) a i g) := by rw [hg]; exact HC.out.ris1 HR1.out
       have HB1 : Hid (Ris (clT T) i mid g) := by rw [hg]; exact HC.out.ris2 HR2.out
       have HA2 : Hid (Ris (clT T) mid e g) := by rw [hg]; exact HC.out.ris3 HR1.out
       have HB2 : Hid (Ris (clT T) e b g) := by rw [hg]; exact HC.out.ris4 HR2.out
       have HS1 : Hid (Sep a i mid g) := by rw [hg]; exact HC.out.sep1 HSP.out
       have HS2 : Hid (Sep mid e b g) := by rw [hg]; exact HC.out.sep2 HSP.out
       have HX : Hid (∀ u v, a ≤ u → u < mid → mid ≤ v → v < b → lx (clT T) (g u) (g v)) := by rw [hg]; exact HC.out.cross (clT_weak T) HR1.out HR2.out
       clear hg hwr
       have HG1 : Hid (dF d = g) := by
        unfold Hid
        have hr := HRL.out
        rw [HG0.out, HGE.out, rot_none f (by omega) (by omega) (by omega)]
       have HK2 := hideO (HIH.out a i mid d wr HBM.out.1 (by rw [HW.out]; exact world_holds HH.out hblk n d os (hwz.out.trans HZ.out)) (by rw [HW.out]; exact Nat.lt_of_lt_of_le hblk (world_size n d os)) (by have := HRL.out; omega) (by have := HRL.out; omega) (by rw [hwz.out]; omega) (by rw [hwz.out]; exact hsz) (by rw [HG1.out]; exact HA1.out) (by rw [HG1.out]; exact HB1.out) (by rw [HG1.out]; exact HS1.out))
       rw [hwz.out] at HK2
       go_wp2_with fail
       refine HK2.out.mono ?_
       rintro er w2 ⟨rfl, n2, d2, os2, hw2, hs2, hp2, hr2⟩
       have HW2 : Hid (w2 = sortWorldK (encT T) 2 w blk 0 (n + n2) d2 (os ++ os2)) := by
        unfold Hid
        rw [hw2, HW.out]
        exact world_world n n2 d d2 os os2 hblk (hs2.trans hwz.out.symm)
       have HS2' : Hid (d2.size = z) := hs2
       rw [HG1.out] at hp2
       have HP2 := hideO hp2
       have HR2' := hideO hr2
       clear hw2 hs2 hp2 hr2 HK2
       have HR3 : Hid (Ris (clT T) mid b (dF d2)) := by
        unfold Hid
        have hr := HRL.out
        refine Ris.congr (f := g) ?_ (fun k h1 _ => HP2.out.2 k (Or.inr h1))
        exact HB2.out.sub (by omega) (Nat.le_refl _)
       have HFIN := hideO (halves HX.out (Nat.le_of_lt HBM.out.2.2.1) (Nat.le_of_lt HBM.out.2.2.2) HP2.out (PermF.refl mid b (dF d2)) HR2'.out HR3.out)
       go_wp2_with fail
       refine bodyPost_end (v := .tuple #[]) (by simp [results, Tryz.results154, go_sem]) rfl ⟨rfl, (n + n2), d2, (os ++ os2), HW2.out, HS2'.out, HPG.out.trans HFIN.out.1, HFIN.out.2⟩
      ·exact absurd HRL.out (by have := HBM.out; omega)
    ·by_cases k2 : i < m
     ·by_cases k3 : e < b
      ·exact absurd HRL.out (by have := HBM.out; omega)
      ·exact absurd HRL.out (by have := HBM.out; omega)
     ·by_cases k3 : e < b
      ·have pim : ¬ (i : Int) < (m : Int) := by have := HRL.out; omega
       have him : decide ((i : Int) < (m : Int)) = false := decide_eq_false pim
       have pme : ¬ (m : Int) < (e : Int) := by have := HRL.out; omega
       have hme : decide ((m : Int) < (e : Int)) = false := decide_eq_false pme
       have pai : (a : Int) < (i : Int) := by have := HRL.out; omega
       have hai : decide ((a : Int) < (i : Int)) = true := decide_eq_true pai
       have pimid : ¬ (i : Int) < (mid : Int) := by have := HRL.out; omega
       have himid : decide ((i : Int) < (mid : Int)) = false := decide_eq_false pimid
       have pmide : ¬ (mid : Int) < (e : Int) := by have := HRL.out; omega
       have hmide : decide ((mid : Int) < (e : Int)) = false := decide_eq_false pmide
       have peb : (e : Int) < (b : Int) := by have := HRL.out; omega
       have heb : decide ((e : Int) < (b : Int)) = true := decide_eq_true peb
       obtain ⟨g, hg⟩ : ∃ g, g = rotF i m e f := ⟨_, rfl⟩
       have HGE := hideO hg
       have HPG : Hid (PermF a b f g) := by rw [hg]; exact HC.out.perm
       have HA1 : Hid (Ris (clT T) a i g) := by rw [hg]; exact HC.out.ris1 HR1.out
       have HB1 : Hid (Ris (clT T) i mid g) := by rw [hg]; exact HC.out.ris2 HR2.out
       have HA2 : Hid (Ris (clT T) mid e g) := by rw [hg]; exact HC.out.ris3 HR1.out
       have HB2 : Hid (Ris (clT T) e b g) := by rw [hg]; exact HC.out.ris4 HR2.out
       have HS1 : Hid (Sep a i mid g) := by rw [hg]; exact HC.out.sep1 HSP.out
       have HS2 : Hid (Sep mid e b g) := by rw [hg]; exact HC.out.sep2 HSP.out
       have HX : Hid (∀ u v, a ≤ u → u < mid → mid ≤ v → v < b → lx (clT T) (g u) (g v)) := by rw [hg]; exact HC.out.cross (clT_weak T) HR1.out HR2.out
       clear hg hwr
       have HG1 : Hid (dF d = g) := by
        unfold Hid
        have hr := HRL.out
        rw [HG0.out, HGE.out, rot_none f (by omega) (by omega) (by omega)]
       have HP2 : Hid (PermF a mid g (dF d)) := by
        unfold Hid
        rw [HG1.out]
        exact PermF.refl _ _ _
       have HR2' : Hid (Ris (clT T) a mid (dF d)) := by
        unfold Hid
        rw [HG1.out]
        have hr := HRL.out
        exact HA1.out.sub (Nat.le_refl _) (by omega)
       have HR3 : Hid (Ris (clT T) mid b (dF d)) := by
        unfold Hid
        have hr := HRL.out
        refine Ris.congr (f := g) ?_ (fun k h1 _ => HP2.out.2 k (Or.inr h1))
        exact HB2.out.sub (by omega) (Nat.le_refl _)
       have HFIN := hideO (halves HX.out (Nat.le_of_lt HBM.out.2.2.1) (Nat.le_of_lt HBM.out.2.2.2) HP2.out (PermF.refl mid b (dF d)) HR2'.out HR3.out)
       go_wp2_with fail
       refine bodyPost_end (v := .tuple #[]) (by simp [results, Tryz.results154, go_sem]) rfl ⟨rfl, n, d, ⟨os, HW.out⟩, hwz.out, HPG.out.trans HFIN.out.1, HFIN.out.2⟩
      ·exact absurd HRL.out (by have := HBM.out; omega)
   ·by_cases k1 : i < mid
    ·by_cases k2 : i < m
     ·by_cases k3 : e < b
      ·have pim : (i : Int) < (m : Int) := by have := HRL.out; omega
       have him : decide ((i : Int) < (m : Int)) = true := decide_eq_true pim
       have pme : (m : Int) < (e : Int) := by have := HRL.out; omega
       have hme : decide ((m : Int) < (e : Int)) = true := decide_eq_true pme
       have pai : ¬ (a : Int) < (i : Int) := by have := HRL.out; omega
       have hai : decide ((a : Int) < (i : Int)) = false := decide_eq_false pai
       have pimid : (i : Int) < (mid : Int) := by have := HRL.out; omega
       have himid : decide ((i : Int) < (mid : Int)) = true := decide_eq_true pimid
       have pmide : (mid : Int) < (e : Int) := by have := HRL.out; omega
       have hmide : decide ((mid : Int) < (e : Int)) = true := decide_eq_true pmide
       have peb : (e : Int) < (b : Int) := by have := HRL.out; omega
       have heb : decide ((e : Int) < (b : Int)) = true := decide_eq_true peb
       obtain ⟨g, hg⟩ : ∃ g, g = rotF i m e f := ⟨_, rfl⟩
       have HGE := hideO hg
       have HPG : Hid (PermF a b f g) := by rw [hg]; exact HC.out.perm
       have HA1 : Hid (Ris (clT T) a i g) := by rw [hg]; exact HC.out.ris1 HR1.out
       have HB1 : Hid (Ris (clT T) i mid g) := by rw [hg]; exact HC.out.ris2 HR2.out
       have HA2 : Hid (Ris (clT T) mid e g) := by rw [hg]; exact HC.out.ris3 HR1.out
       have HB2 : Hid (Ris (clT T) e b g) := by rw [hg]; exact HC.out.ris4 HR2.out
       have HS1 : Hid (Sep a i mid g) := by rw [hg]; exact HC.out.sep1 HSP.out
       have HS2 : Hid (Sep mid e b g) := by rw [hg]; exact HC.out.sep2 HSP.out
       have HX : Hid (∀ u v, a ≤ u → u < mid → mid ≤ v → v < b → lx (clT T) (g u) (g v)) := by rw [hg]; exact HC.out.cross (clT_weak T) HR1.out HR2.out
       clear hg hwr
       have HK1 := hideO (rotate_T T blk cap i m e d wr (.func (.func 108) #[] #[]) (by rw [HW.out]; exact world_holds HH.out hblk n d os rfl) (by rw [HW.out]; exact Nat.lt_of_lt_of_le hblk (world_size n d os)) (by have := HRL.out; omega) (by have := HRL.out; omega) (by rw [hwz.out]; exact hez) (by rw [hwz.out]; exact hsz))
       rw [hwz.out] at HK1
       go_wp2_with fail
       refine HK1.out.mono ?_
       rintro er w1 ⟨rfl, n1, d1, hw1, hs1, hf1⟩
       have HW1 : Hid (w1 = sortWorldK (encT T) 2 w blk 0 (n + n1) d1 (os ++ #[])) := by
        unfold Hid
        rw [hw1, HW.out]
        exact world_world n n1 d d1 os #[] hblk (hs1.trans hwz.out.symm)
       have HS1' : Hid (d1.size = z) := hs1
       have HG1 : Hid (dF d1 = g) := by
        unfold Hid
        rw [hf1, HG0.out, HGE.out]
       clear hw1 hs1 hf1 HK1
       have HP2 : Hid (PermF a mid g (dF d1)) := by
        unfold Hid
        rw [HG1.out]
        exact PermF.refl _ _ _
       have HR2' : Hid (Ris (clT T) a mid (dF d1)) := by
        unfold Hid
        rw [HG1.out]
        have hr := HRL.out
        exact HB1.out.sub (by omega) (Nat.le_refl _)
       have HE2 : Hid (∀ k, mid ≤ k → dF d1 k = g k) := fun k hk => HP2.out.2 k (Or.inr hk)
       have HK3 := hideO (HIH.out mid e b d1 w1 HBM.out.2.1 (by rw [HW1.out]; exact world_holds HH.out hblk (n + n1) d1 (os ++ #[]) (HS1'.out.trans HZ.out)) (by rw [HW1.out]; exact Nat.lt_of_lt_of_le hblk (world_size (n + n1) d1 (os ++ #[]))) (by have := HRL.out; omega) (by have := HRL.out; omega) (by rw [HS1'.out]; omega) (by rw [HS1'.out]; exact hsz) (HA2.out.congr (fun k h1 _ => HE2.out k h1)) (HB2.out.congr (fun k h1 _ => HE2.out k (by have := HRL.out; omega))) (fun u v h1 h2 h3 h4 => by rw [HE2.out u h1, HE2.out v (by omega)]; exact HS2.out u v h1 h2 h3 h4))
       rw [HS1'.out] at HK3
       go_wp2_with fail
       refine HK3.out.mono ?_
       rintro er w3 ⟨rfl, n3, d3, os3, hw3, hs3, hp3, hr3⟩
       have HW3 : Hid (w3 = sortWorldK (encT T) 2 w blk 0 ((n + n1) + n3) d3 ((os ++ #[]) ++ os3)) := by
        unfold Hid
        rw [hw3, HW1.out]
        exact world_world (n + n1) n3 d1 d3 (os ++ #[]) os3 hblk (hs3.trans HS1'.out.symm)
       have HS3' : Hid (d3.size = z) := hs3
       have HFIN := hideO (halves HX.out (Nat.le_of_lt HBM.out.2.2.1) (Nat.le_of_lt HBM.out.2.2.2) HP2.out hp3 HR2'.out hr3)
       clear hw3 hs3 hp3 hr3 HK3
       go_wp2_with fail
       refine bodyPost_end (v := .tuple #[]) (by simp [results, Tryz.results154, go_sem]) rfl ⟨rfl, ((n + n1) + n3), d3, ((os ++ #[]) ++ os3), HW3.out, HS3'.out, HPG.out.trans HFIN.out.1, HFIN.out.2⟩
      ·have pim : (i : Int) < (m : Int) := by have := HRL.out; omega
       have him : decide ((i : Int) < (m : Int)) = true := decide_eq_true pim
       have pme : (m : Int) < (e : Int) := by have := HRL.out; omega
       have hme : decide ((m : Int) < (e : Int)) = true := decide_eq_true pme
       have pai : ¬ (a : Int) < (i : Int) := by have := HRL.out; omega
       have hai : decide ((a : Int) < (i : Int)) = false := decide_eq_false pai
       have pimid : (i : Int) < (mid : Int) := by have := HRL.out; omega
       have himid : decide ((i : Int) < (mid : Int)) = true := decide_eq_true pimid
       have pmide : (mid : Int) < (e : Int) := by have := HRL.out; omega
       have hmide : decide ((mid : Int) < (e : Int)) = true := decide_eq_true pmide
       have peb : ¬ (e : Int) < (b : Int) := by have := HRL.out; omega
       have heb : decide ((e : Int) < (b : Int)) = false := decide_eq_false peb
       obtain ⟨g, hg⟩ : ∃ g, g = rotF i m e f := ⟨_, rfl⟩
       have HGE := hideO hg
       have HPG : Hid (PermF a b f g) := by rw [hg]; exact HC.out.perm
       have HA1 : Hid (Ris (clT T) a i g) := by rw [hg]; exact HC.out.ris1 HR1.out
       have HB1 : Hid (Ris (clT T) i mid g) := by rw [hg]; exact HC.out.ris2 HR2.out
       have HA2 : Hid (Ris (clT T) mid e g) := by rw [hg]; exact HC.out.ris3 HR1.out
       have HB2 : Hid (Ris (clT T) e b g) := by rw [hg]; exact HC.out.ris4 HR2.out
       have HS1 : Hid (Sep a i mid g) := by rw [hg]; exact HC.out.sep1 HSP.out
       have HS2 : Hid (Sep mid e b g) := by rw [hg]; exact HC.out.sep2 HSP.out
       have HX : Hid (∀ u v, a ≤ u → u < mid → mid ≤ v → v < b → lx (clT T) (g u) (g v)) := by rw [hg]; exact HC.out.cross (clT_weak T) HR1.out HR2.out
       clear hg hwr
       have HK1 := hideO (rotate_T T blk cap i m e d wr (.func (.func 108) #[] #[]) (by rw [HW.out]; exact world_holds HH.out hblk n d os rfl) (by rw [HW.out]; exact Nat.lt_of_lt_of_le hblk (world_size n d os)) (by have := HRL.out; omega) (by have := HRL.out; omega) (by rw [hwz.out]; exact hez) (by rw [hwz.out]; exact hsz))
       rw [hwz.out] at HK1
       go_wp2_with fail
       refine HK1.out.mono ?_
       rintro er w1 ⟨rfl, n1, d1, hw1, hs1, hf1⟩
       have HW1 : Hid (w1 = sortWorldK (encT T) 2 w blk 0 (n + n1) d1 (os ++ #[])) := by
        unfold Hid
        rw [hw1, HW.out]
        exact world_world n n1 d d1 os #[] hblk (hs1.trans hwz.out.symm)
       have HS1' : Hid (d1.size = z) := hs1
       have HG1 : Hid (dF d1 = g) := by
        unfold Hid
        rw [hf1, HG0.out, HGE.out]
       clear hw1 hs1 hf1 HK1
       have HP2 : Hid (PermF a mid g (dF d1)) := by
        unfold Hid
        rw [HG1.out]
        exact PermF.refl _ _ _
       have HR2' : Hid (Ris (clT T) a mid (dF d1)) := by
        unfold Hid
        rw [HG1.out]
        have hr := HRL.out
        exact HB1.out.sub (by omega) (Nat.le_refl _)
       have HR3 : Hid (Ris (clT T) mid b (dF d1)) := by
        unfold Hid
        have hr := HRL.out
        refine Ris.congr (f := g) ?_ (fun k h1 _ => HP2.out.2 k (Or.inr h1))
        exact HA2.out.sub (Nat.le_refl _) (by omega)
       have HFIN := hideO (halves HX.out (Nat.le_of_lt HBM.out.2.2.1) (Nat.le_of_lt HBM.out.2.2.2) HP2.out (PermF.refl mid b (dF d1)) HR2'.out HR3.out)
       go_wp2_with fail
       refine bodyPost_end (v := .tuple #[]) (by simp [results, Tryz.results154, go_sem]) rfl ⟨rfl, (n + n1), d1, (os ++ #[]), HW1.out, HS1'.out, HPG.out.trans HFIN.out.1, HFIN.out.2⟩
     ·by_cases k3 : e < b
      ·exact absurd HRL.out (by have := HBM.out; omega)
      ·exact absurd HRL.out (by have := HBM.out; omega)
    ·by_cases k2 : i < m
     ·by_cases k3 : e < b
      ·exact absurd HRL.out (by have := HBM.out; omega)
      ·exact absurd HRL.out (by have := HBM.out; omega)
     ·by_cases k3 : e < b
      ·exact absurd HRL.out (by have := HBM.out; omega)
      ·exact absurd HRL.out (by have := HBM.out; omega)
end Go.Proofs.YthbpenanelbbcaaGreatDoor.So


/- A merge in place at turns, in whole. -/
namespace Go.Proofs.YthbpenanelbbcaaGreatDoor.So
open Go.RowKit Go.Sort Go.Proofs
theorem merge_T (T : Nat → ByteArray) (blk cap : Nat) : ∀ (N a m b : Nat) (d : Array Nat) (w : World), b - a ≤ N → HoldsK (encT T) 2 w blk 0 d → blk < w.heap.size → a < m → m < b → b ≤ d.size → d.size ≤ 1048576 → Ris (clT T) a m (dF d) → Ris (clT T) m b (dF d) → Sep a m b (dF d) →
  Calls Tryz.prog 154 #[.slice (some ⟨blk, 0, none⟩) d.size cap, .int .i64 a, .int .i64 m, .int .i64 b, .func (.func 108) #[] #[]] w fun e w' =>
   e = .returned (.tuple #[]) ∧ ∃ n d' os, w' = sortWorldK (encT T) 2 w blk 0 n d' os ∧ d'.size = d.size ∧ PermF a b (dF d) (dF d') ∧ Ris (clT T) a b (dF d') := by
 intro N
 induction N with
 | zero => intro a m b d w hN _ _ ham hmb; omega
 | succ N ih =>
  intro a m b d w hN hH hblk ham hmb hb hsz hr1 hr2 hsep
  by_cases hA : m = a + 1
  ·subst hA
   exact mergeA_T T blk cap a b d w hH hblk hmb hb hsz hr2 hsep
  ·by_cases hB : b = m + 1
   ·subst hB
    exact mergeB_T T blk cap a m d w hH hblk (by omega) hb hsz hr1 hsep
   ·by_cases hM : (a + b) / 2 < m
    ·exact mergeH_T T blk cap a m b d w hH hblk (by omega) (by omega) hb hsz hr1 hr2 hsep hM (fun a' m' b' d' W h1 => ih a' m' b' d' W (by omega))
    ·exact mergeL_T T blk cap a m b d w hH hblk (by omega) (by omega) hb hsz hr1 hr2 hsep (by omega) (fun a' m' b' d' W h1 => ih a' m' b' d' W (by omega))
end Go.Proofs.YthbpenanelbbcaaGreatDoor.So


/- The walk of a stable sort at turns. -/
namespace Go.Proofs.YthbpenanelbbcaaGreatDoor.So
open Go.RowKit Go.Sort Go.Proofs
set_option maxRecDepth 100000 in
set_option maxHeartbeats 4000000 in
theorem stable_T (T : Nat → ByteArray) (blk cap : Nat) (d : Array Nat) (w : World) (hH : HoldsK (encT T) 2 w blk 0 d) (hblk : blk < w.heap.size) (hsz : d.size ≤ 1048576) (hid : ∀ i, i < d.size → dF d i = i) :
    Calls Tryz.prog 135 #[.slice (some ⟨blk, 0, none⟩) d.size cap, .int .i64 d.size, .func (.func 108) #[] #[]] w fun e w' =>
      e = .returned (.tuple #[]) ∧ ∃ n d' os, w' = sortWorldK (encT T) 2 w blk 0 n d' os ∧ d'.size = d.size ∧ PermF 0 d.size (dF d) (dF d') ∧ Ris (clT T) 0 d.size (dF d') := by
  have HST := hideO (world_self hH)
  have HH := hideO hH
  clear hH
  obtain ⟨z, hz⟩ : ∃ z, z = d.size := ⟨_, rfl⟩
  have HZ := hideO hz
  rw [← hz] at hsz hid ⊢
  clear hz
  obtain ⟨f0, hf⟩ : ∃ f0, f0 = dF d := ⟨_, rfl⟩
  have HFD := hideO hf
  rw [← hf] at hid ⊢
  have HID := hideO hid
  clear hf hid
  have HIN := hideO (fun (n : Nat) (dk : Array Nat) (os : Array Obj) (hs : dk.size = z) (a b : Nat) (h1 : a ≤ b) (h2 : b ≤ z) (hr : ∀ i j, a ≤ i → i < j → j < b → dF dk i < dF dk j) =>
    insertion_T T blk cap a b dk (sortWorldK (encT T) 2 w blk 0 n dk os) (world_holds HH.out hblk n dk os (hs.trans HZ.out)) (Nat.lt_of_lt_of_le hblk (world_size n dk os)) h1 (by rw [hs]; exact h2) (by rw [hs]; exact hsz) hr)
  have HMG := hideO (fun (n : Nat) (dk : Array Nat) (os : Array Obj) (hs : dk.size = z) (a m b : Nat) (h1 : a < m) (h2 : m < b) (h3 : b ≤ z) (c1 : Ch (clT T) a m (dF dk)) (c2 : Ch (clT T) m b (dF dk)) =>
    merge_T T blk cap (b - a) a m b dk (sortWorldK (encT T) 2 w blk 0 n dk os) (Nat.le_refl _) (world_holds HH.out hblk n dk os (hs.trans HZ.out)) (Nat.lt_of_lt_of_le hblk (world_size n dk os)) h1 h2 (by rw [hs]; exact h3) (by rw [hs]; exact hsz) c1.1 c2.1 (c1.sep c2))
  have HWW := hideO (fun (n n' : Nat) (dk d' : Array Nat) (os os' : Array Obj) (hs : d'.size = dk.size) => world_world (enc := encT T) (k := 2) (w := w) (blk := blk) (off := 0) n n' dk d' os os' hblk hs)
  go_enter Tryz.func135, Tryz.ntmps135
  go_wp2_with fail
  go_loopw [7, 8] (fun u v wr => ∃ (k n : Nat) (dk : Array Nat) (os : Array Obj), u = .int .i64 (20 * k : Nat) ∧ v = .int .i64 (20 * k + 20 : Nat) ∧ 20 * k ≤ z ∧ dk.size = z ∧ Chs (clT T) 20 z 0 (20 * k) (dF dk) ∧ (∀ i, 20 * k ≤ i → i < z → dF dk i = i) ∧ PermF 0 z f0 (dF dk) ∧ wr = sortWorldK (encT T) 2 w blk 0 n dk os) (fun u _ _ => z - (intOf u).toNat)
  case atStart => exact ⟨0, 0, d, #[], rfl, rfl, by omega, HZ.out.symm, Chs.none, fun i _ h => by rw [← HFD.out]; exact HID.out i h, by rw [← HFD.out]; exact PermF.refl _ _ _, HST.out⟩
  case round =>
    obtain ⟨k, n, dk, os, rfl, rfl, hkz, hsk, hch, hidk, hpm, hwr⟩ := hrel
    have HSK := hideO hsk
    have HCH := hideO hch
    have HIK := hideO hidk
    have HPM := hideO hpm
    have HW := hideO hwr
    obtain ⟨a, ha⟩ : ∃ a, a = 20 * k := ⟨_, rfl⟩
    obtain ⟨b, hb⟩ : ∃ b, b = 20 * k + 20 := ⟨_, rfl⟩
    have HAB : Hid (a = 20 * k ∧ b = 20 * k + 20) := ⟨ha, hb⟩
    have hab : a < b := by omega
    rw [← ha] at hkz
    rw [← hb, ← ha]
    clear hsk hch hidk hpm ha hb
    by_cases hlt : b ≤ z
    · have HC := hideO (HIN.out n dk os HSK.out a b (by omega) hlt (fun i j h1 h2 h3 => by have := HAB.out; rw [HIK.out i (by omega) (by omega), HIK.out j (by omega) (by omega)]; exact h2))
      rw [← hwr, HSK.out] at HC
      have hlt' : (b : Int) ≤ (z : Int) := by omega
      clear hwr
      go_wp2_with fail
      refine HC.out.mono ?_
      rintro er w1 ⟨rfl, n1, d1, os1, hw1, hs1, hp1, hr1⟩
      have HW1 : Hid (w1 = sortWorldK (encT T) 2 w blk 0 (n + n1) d1 (os ++ os1)) := by
        unfold Hid
        rw [hw1, HW.out]
        exact HWW.out n n1 dk d1 os os1 (hs1.trans HSK.out.symm)
      have HS1 := hideO hs1
      have HP1 := hideO hp1
      have HR1 := hideO hr1
      obtain ⟨b4, hb4⟩ : ∃ b4, b4 = b + 20 := ⟨_, rfl⟩
      have e3 : (b : Int) + 20 = (b4 : Int) := by omega
      have HB4 := hideO hb4
      clear hb4
      clear hw1 hs1 hp1 hr1 HC
      go_wp2_with fail
      go_roundw
      case rel =>
        have hr := HAB.out
        refine ⟨k + 1, n + n1, d1, os ++ os1, by rw [hr.2]; rfl, by rw [HB4.out, hr.2]; rfl, by omega, HS1.out, ?_, fun i h1 h2 => ?_, HPM.out.trans (HP1.out.mono (Nat.zero_le _) (by omega) (by omega)), HW1.out⟩
        · have hc : Ch (clT T) (20 * k) (20 * k + 20) (dF d1) := by
            rw [← hr.2, ← hr.1]
            exact Ch.start (fun i h1 h2 => HIK.out i (by omega) (by omega)) HP1.out HR1.out
          have := HCH.out.more (g := dF d1) (by omega) (fun i hi => HP1.out.2 i (Or.inl (by omega))) hc
          rw [Nat.mul_succ]
          exact this
        · rw [HP1.out.2 i (Or.inr (by omega))]
          exact HIK.out i (by omega) h2
      case measure => have := HAB.out; simp [intOf]; omega
    · have hlt' : ¬ (b : Int) ≤ (z : Int) := by omega
      have HC := hideO (HIN.out n dk os HSK.out a z (by omega) (Nat.le_refl _) (fun i j h1 h2 h3 => by have := HAB.out; rw [HIK.out i (by omega) (by omega), HIK.out j (by omega) (by omega)]; exact h2))
      rw [← hwr, HSK.out] at HC
      clear hwr
      go_wp2_with fail
      refine HC.out.mono ?_
      rintro er w1 ⟨rfl, n1, d1, os1, hw1, hs1, hp1, hr1⟩
      have HW1 : Hid (w1 = sortWorldK (encT T) 2 w blk 0 (n + n1) d1 (os ++ os1)) := by
        unfold Hid
        rw [hw1, HW.out]
        exact HWW.out n n1 dk d1 os os1 (hs1.trans HSK.out.symm)
      have HCA : Hid (Chs (clT T) 20 z 0 z (dF d1)) := by
        have hr := HAB.out
        refine HCH.out.last (by omega) (fun i hi => hp1.2 i (Or.inl (by omega))) ?_
        rw [← hr.1]
        exact Ch.start (fun i h1 h2 => HIK.out i (by omega) h2) hp1 hr1
      have HPA := hideO (HPM.out.trans (hp1.mono (Nat.zero_le _) hkz (Nat.le_refl _)))
      have HS1 := hideO hs1
      clear hw1 hs1 hp1 hr1 HC
      go_wp2_with fail
      go_loopw [6] (fun u wr => ∃ (bs n : Nat) (dk : Array Nat) (os : Array Obj), u = .int .i64 bs ∧ 0 < bs ∧ bs ≤ 2 * z + 20 ∧ dk.size = z ∧ Chs (clT T) bs z 0 z (dF dk) ∧ PermF 0 z f0 (dF dk) ∧ wr = sortWorldK (encT T) 2 w blk 0 n dk os) (fun u _ => z - (intOf u).toNat)
      case atStart => exact ⟨20, n + n1, d1, os ++ os1, rfl, by omega, by omega, HS1.out, HCA.out, HPA.out, HW1.out⟩
      case round =>
        obtain ⟨bs, n2, d2, os2, rfl, hbs0, hbsz, hs2, hch2, hpm2, hwr2⟩ := hrel
        have HS2 := hideO hs2
        have HC2 := hideO hch2
        have HP2 := hideO hpm2
        have HW2 := hideO hwr2
        clear hs2 hch2 hpm2 hwr2
        by_cases hlz : bs < z
        · have hlz' : (bs : Int) < (z : Int) := by omega
          obtain ⟨b2, hb2⟩ : ∃ b2, b2 = 2 * bs := ⟨_, rfl⟩
          have eb2 : 2 * (bs : Int) = (b2 : Int) := by omega
          have eb2' : (bs : Int) * 2 = (b2 : Int) := by omega
          have HB2 := hideO hb2
          clear hb2
          go_wp2_with fail
          go_loopw [7, 8] (fun u v wr => ∃ (k n : Nat) (dk : Array Nat) (os : Array Obj), u = .int .i64 (b2 * k : Nat) ∧ v = .int .i64 (b2 * k + b2 : Nat) ∧ b2 * k ≤ z ∧ dk.size = z ∧ Chs (clT T) b2 z 0 (b2 * k) (dF dk) ∧ Chs (clT T) bs z (b2 * k) z (dF dk) ∧ PermF 0 z f0 (dF dk) ∧ wr = sortWorldK (encT T) 2 w blk 0 n dk os) (fun u _ _ => z - (intOf u).toNat)
          case atStart => exact ⟨0, n2, d2, os2, by simp, by simp, by omega, HS2.out, by rw [Nat.mul_zero]; exact Chs.none, by rw [Nat.mul_zero]; exact HC2.out, HP2.out, HW2.out⟩
          case round =>
            obtain ⟨k, n3, d3, os3, rfl, rfl, hkz3, hs3, hch3, hcr3, hpm3, hwr3⟩ := hrel
            have HS3 := hideO hs3
            have HC3 := hideO hch3
            have HD3 := hideO hcr3
            have HP3 := hideO hpm3
            have HW3 := hideO hwr3
            obtain ⟨a3, ha3⟩ : ∃ a3, a3 = b2 * k := ⟨_, rfl⟩
            obtain ⟨e3, he3⟩ : ∃ e3, e3 = b2 * k + b2 := ⟨_, rfl⟩
            obtain ⟨m3, hm3⟩ : ∃ m3, m3 = b2 * k + bs := ⟨_, rfl⟩
            have HAE : Hid (a3 = b2 * k ∧ e3 = a3 + b2 ∧ m3 = a3 + bs ∧ b2 = 2 * bs ∧ a3 = bs * (2 * k)) := by
              refine ⟨ha3, by omega, by omega, HB2.out, ?_⟩
              rw [ha3, HB2.out, Nat.mul_comm 2 bs, Nat.mul_assoc]
            have em3 : (a3 : Int) + (bs : Int) = (m3 : Int) := by omega
            rw [← ha3] at hkz3 HC3 HD3
            rw [← he3, ← ha3]
            have hal := HAE.out
            have hm3z : m3 ≤ z + bs := by omega
            have he3z : e3 ≤ z + b2 := by omega
            have hb2z : b2 ≤ 2 * z := by omega
            clear hs3 hch3 hcr3 hpm3 ha3 he3 hm3
            by_cases hle : e3 ≤ z
            · have hle' : (e3 : Int) ≤ (z : Int) := by omega
              have c1 : Ch (clT T) a3 m3 (dF d3) := by
                have := HD3.out.at0 hal.2.2.2.2 (by omega)
                rwa [Nat.min_eq_left (by omega), ← hal.2.2.1] at this
              have c2 : Ch (clT T) m3 e3 (dF d3) := by
                have := HD3.out.at1 hal.2.2.2.2 (by omega)
                rwa [Nat.min_eq_left (by omega), ← hal.2.2.1, show m3 + bs = e3 by omega] at this
              have HC := hideO (HMG.out n3 d3 os3 HS3.out a3 m3 e3 (by omega) (by omega) hle c1 c2)
              rw [← hwr3, HS3.out] at HC
              have HCC : Hid (Ch (clT T) a3 m3 (dF d3) ∧ Ch (clT T) m3 e3 (dF d3)) := ⟨c1, c2⟩
              obtain ⟨e4, he4⟩ : ∃ e4, e4 = e3 + b2 := ⟨_, rfl⟩
              have ee4 : (e3 : Int) + (b2 : Int) = (e4 : Int) := by omega
              have HE4 := hideO he4
              clear hwr3 c1 c2 hal he4
              go_wp2_with fail
              refine HC.out.mono ?_
              rintro er w4 ⟨rfl, n4, d4, os4, hw4, hs4, hp4, hr4⟩
              have HW4 : Hid (w4 = sortWorldK (encT T) 2 w blk 0 (n3 + n4) d4 (os3 ++ os4)) := by
                unfold Hid
                rw [hw4, HW3.out]
                exact HWW.out n3 n4 d3 d4 os3 os4 (hs4.trans HS3.out.symm)
              have HS4 := hideO hs4
              have HP4 := hideO hp4
              have HR4 := hideO hr4
              clear hw4 hs4 hp4 hr4 HC
              go_wp2_with fail
              go_roundw
              case rel =>
                have hal := HAE.out
                have hk1 : b2 * (k + 1) = e3 := by rw [Nat.mul_succ]; omega
                refine ⟨k + 1, n3 + n4, d4, os3 ++ os4, by rw [hk1], by rw [hk1, ← HE4.out], by omega, HS4.out, ?_, ?_, HP3.out.trans (HP4.out.mono (Nat.zero_le _) (by omega) hle), HW4.out⟩
                · rw [hk1]
                  have := HC3.out
                  rw [hal.1] at this
                  have q := this.more (g := dF d4) (by omega) (fun i hi => HP4.out.2 i (Or.inl (by omega))) (by
                    rw [← hal.1, ← hal.2.1]
                    exact HCC.out.1.merge HCC.out.2 (by omega) (by omega) HP4.out HR4.out)
                  rw [← hal.1, ← hal.2.1] at q
                  exact q
                · rw [hk1]
                  exact HD3.out.rest (by omega) (fun i h1 h2 => HP4.out.2 i (Or.inr h1))
              case measure => have := HAE.out; simp [intOf]; omega
            · have hle' : ¬ (e3 : Int) ≤ (z : Int) := by omega
              by_cases hmz : m3 < z
              · have hmz' : (m3 : Int) < (z : Int) := by omega
                have c1 : Ch (clT T) a3 m3 (dF d3) := by
                  have := HD3.out.at0 hal.2.2.2.2 (by omega)
                  rwa [Nat.min_eq_left (by omega), ← hal.2.2.1] at this
                have c2 : Ch (clT T) m3 z (dF d3) := by
                  have := HD3.out.at1 hal.2.2.2.2 (by omega)
                  rwa [Nat.min_eq_right (by omega), ← hal.2.2.1] at this
                have HC := hideO (HMG.out n3 d3 os3 HS3.out a3 m3 z (by omega) hmz (Nat.le_refl _) c1 c2)
                rw [← hwr3, HS3.out] at HC
                have HCC : Hid (Ch (clT T) a3 m3 (dF d3) ∧ Ch (clT T) m3 z (dF d3)) := ⟨c1, c2⟩
                clear hwr3 c1 c2 hal
                go_wp2_with fail
                refine HC.out.mono ?_
                rintro er w4 ⟨rfl, n4, d4, os4, hw4, hs4, hp4, hr4⟩
                have HW4 : Hid (w4 = sortWorldK (encT T) 2 w blk 0 (n3 + n4) d4 (os3 ++ os4)) := by
                  unfold Hid
                  rw [hw4, HW3.out]
                  exact HWW.out n3 n4 d3 d4 os3 os4 (hs4.trans HS3.out.symm)
                have HS4 := hideO hs4
                have HP4 := hideO hp4
                have HR4 := hideO hr4
                clear hw4 hs4 hp4 hr4 HC
                go_wp2_with fail
                go_roundw
                case rel =>
                  have hal := HAE.out
                  refine ⟨b2, n3 + n4, d4, os3 ++ os4, rfl, by omega, by omega, HS4.out, ?_, HP3.out.trans (HP4.out.mono (Nat.zero_le _) (by omega) (Nat.le_refl _)), HW4.out⟩
                  have := HC3.out
                  rw [hal.1] at this
                  refine this.last (by omega) (fun i hi => HP4.out.2 i (Or.inl (by omega))) ?_
                  rw [← hal.1]
                  exact HCC.out.1.merge HCC.out.2 (by omega) (by omega) HP4.out HR4.out
                case measure => have := HAE.out; simp [intOf]; omega
              · have hmz' : ¬ (m3 : Int) < (z : Int) := by omega
                clear hwr3 hal
                go_wp2_with fail
                go_roundw
                case rel =>
                  have hal := HAE.out
                  refine ⟨b2, n3, d3, os3, rfl, by omega, by omega, HS3.out, ?_, HP3.out, HW3.out⟩
                  rcases Nat.eq_or_lt_of_le hkz3 with q | q
                  · rw [← q]
                    rw [q]
                    have := HC3.out
                    rw [q] at this
                    exact this
                  · have := HC3.out
                    rw [hal.1] at this
                    refine this.last (by omega) (fun i hi => rfl) ?_
                    rw [← hal.1]
                    have c1 := HD3.out.at0 hal.2.2.2.2 q
                    rwa [Nat.min_eq_right (by omega)] at c1
                case measure => have := HAE.out; simp [intOf]; omega
        · have hlz' : ¬ (bs : Int) < (z : Int) := by omega
          have HF := hideO (HC2.out.whole (by omega))
          go_wp2_with fail
          refine bodyPost_end (v := .tuple #[]) (by simp [results, Tryz.results135, go_sem]) rfl ⟨rfl, n2, d2, ⟨os2, HW2.out⟩, HS2.out, HP2.out, HF.out⟩
end Go.Proofs.YthbpenanelbbcaaGreatDoor.So


/- What the program's sortedTurns answers. -/
namespace Go.Proofs.YthbpenanelbbcaaGreatDoor.So
open Go.RowKit Go.Sort Go.Proofs Go.Shelf
attribute [local go_sem] Oper.semAt_some
theorem Tryz.infoU94 : (Tryz.prog.info? 94).map (fun i => (i.zero, i.size, i.bytes)) = some (some (.agg #[.int .i64 0, .string ⟨#[]⟩]), 2, 24) := by kernel_rfl
set_option maxHeartbeats 1000000 in
theorem sortStable_T (T : Nat → ByteArray) (blk cap : Nat) (d : Array Nat) (w : World) (hH : HoldsK (encT T) 2 w blk 0 d) (hblk : blk < w.heap.size) (hsz : d.size ≤ 1048576) (hid : ∀ i, i < d.size → dF d i = i) :
  Calls Tryz.prog 107 #[.slice (some ⟨blk, 0, none⟩) d.size cap, .func (.func 108) #[] #[]] w fun e w' =>
   e = .returned (.tuple #[]) ∧ ∃ n d' os, w' = sortWorldK (encT T) 2 w blk 0 n d' os ∧ d'.size = d.size ∧ PermF 0 d.size (dF d) (dF d') ∧ Ris (clT T) 0 d.size (dF d') := by
 have HS := hideO (stable_T T blk cap d w hH hblk hsz hid)
 clear hH hid
 generalize d.size = z at HS hsz ⊢
 go_enter Tryz.func107, Tryz.ntmps107
 go_wp2_with fail
 refine HS.out.mono ?_
 rintro e w' ⟨rfl, n, d', os, hw, hs, hp, hr⟩
 have HX : Hid (∃ n d' os, w' = sortWorldK (encT T) 2 w blk 0 n d' os ∧ d'.size = z ∧ PermF 0 z (dF d) (dF d') ∧ Ris (clT T) 0 z (dF d')) := ⟨n, d', os, hw, hs, hp, hr⟩
 clear hw hs hp hr
 go_wp2_with fail
 refine bodyPost_end (v := .tuple #[]) (by simp [results, Tryz.results107, go_sem]) rfl ⟨rfl, HX.out⟩
theorem world_type {enc : Nat → List Value} {k : Nat} {w : World} {blk off : Nat} {cur : Array Value} {t : TypeId} {fr : Nat × Nat} (h : w.heap[blk]? = some (.cells cur t fr)) (m : Nat) (d' : Array Nat) (os : Array Obj) : ∃ cur', (sortWorldK enc k w blk off m d' os).heap[blk]? = some (.cells cur' t fr) := by
 have hlt := (Array.getElem?_eq_some_iff.1 h).1
 unfold sortWorldK
 rw [heap_grow_old _ _ (by rw [size_putRowK]; exact hlt)]
 unfold putRowK putRow mapBlock
 simp only [Array.getElem?_modify, if_true]
 have h2 : (Go.Sort.ahead w m).heap[blk]? = some (.cells cur t fr) := h
 rw [h2]
 exact ⟨_, rfl⟩
def flatT (T : Nat → ByteArray) (l : List Nat) : List Value := l.flatMap (encT T)
theorem flatT_snoc (T : Nat → ByteArray) (l : List Nat) (x : Nat) : flatT T (l ++ [x]) = flatT T l ++ [.int .i64 (x : Nat), .string (T x)] := by simp [flatT, encT]
theorem flatT_get (T : Nat → ByteArray) (l : List Nat) (i c : Nat) (hi : i < l.length) (hc : c < 2) : (flatT T l)[i * 2 + c]? = some (encT T l[i])[c]! := by
 induction l generalizing i with
 | nil => simp at hi
 | cons x l ih =>
  cases i with
  | zero =>
   have : c = 0 ∨ c = 1 := by omega
   rcases this with rfl | rfl <;> simp [flatT, encT]
  | succ i =>
   have := ih i (by simpa using hi)
   rw [show flatT T (x :: l) = encT T x ++ flatT T l from rfl, List.getElem?_append_right (by rw [encT_len]; omega), encT_len, show (i + 1) * 2 + c - 2 = i * 2 + c by omega, this]
   rfl
theorem two_newT (W : World) (x y : Value) (t : TypeId) : ∀ (j : Nat) (u : Value), [x, y][j]? = some u → (W.alloc (.cells #[x, y] t)).cell? ((⟨W.heap.size, 0, none⟩ : Addr).add j) = some u := by
 intro j u hj
 match j, hj with
 | 0, hj => simp at hj; subst hj; simp [Addr.add]
 | 1, hj => simp at hj; subst hj; simp [Addr.add]
theorem holds_of_own {T : Nat → ByteArray} {w : World} {base g n cap : Nat} {l : List Nat} {e : TypeId} (h : w.ownsRow base e 2 (.slice (some ⟨g, 0, none⟩) n cap) l.length (flatT T l)) : HoldsK (encT T) 2 w g 0 l.toArray := by
 obtain ⟨_, h⟩ := h
 rcases h with ⟨h, _⟩ | ⟨g', cap', cur, hv, _, hb, _, _, _, htk⟩
 ·cases h
 ·have hg : g = g' := by simp at hv; exact hv.1
  subst hg
  intro j hj
  rw [size_flatK] at hj
  have hj' : j < l.length * 2 := by simpa using hj
  rw [get_flatK _ _ _ _ hj, Nat.zero_add]
  have hi : j / 2 < l.length := by omega
  refine ⟨?_, frozen_of_row w g j _ e hb⟩
  rw [cell_of_row w g j _ e (0, 0) hb, ← Array.getElem?_toList]
  have h1 : cur.toList[j]? = (cur.toList.take (l.length * 2))[j]? := by rw [List.getElem?_take_of_lt hj']
  rw [h1, htk]
  have h2 := flatT_get T l (j / 2) (j % 2) hi (by omega)
  rw [show j / 2 * 2 + j % 2 = j by omega] at h2
  rw [h2]
  have h3 : l.toArray[j / 2]! = l[j / 2] := by simp [hi]
  rw [h3]
  rfl
set_option maxRecDepth 100000 in
set_option maxHeartbeats 4000000 in
theorem sorted_T (t : ByteArray) (ht : t.size ≤ 1048576) (w : World) :
  Calls Tryz.prog 73 #[.string t] w fun e w' => ∃ g cap d, e = .returned (.slice (some ⟨g, 0, none⟩) t.size cap) ∧ w.heap.size ≤ g ∧ g < w'.heap.size ∧ HoldsK (encT (turnV t)) 2 w' g 0 d ∧ d.size = t.size ∧ (seg (dF d) 0 t.size).Perm (List.range t.size) ∧ Ris (clT (turnV t)) 0 t.size (dF d) ∧ (∃ cur, w'.heap[g]? = some (.cells cur 94 (0, 0))) ∧ Below w.heap.size w w' := by
 obtain ⟨i0, hi, hz0, hz1, hz2⟩ := info_parts Tryz.infoU94
 refine (callsIn_wide (n := 3)).1 ?_
 refine callsIn_of_wp_marks Tryz.func73 rfl trivial ?_ rfl
 simp only [Tryz.ntmps73, List.size_toArray, List.length_cons, List.length_nil, Nat.reduceAdd, Nat.reduceSub, Array.replicate_succ, Array.replicate_zero, List.push_toArray, List.append_toArray, List.nil_append, List.cons_append]
 gi_wp2_with (first | (gi_at_make; refine wpListIn_make_own _ rfl _ _ 91 rfl w.heap.size 94 i0 _ 2 Tryz.underlying91 hi hz0 hz1 .i64 .i64 _ t.size rfl rfl (by simp) (by rw [hz2]; omega) (by unfold maxLen; omega) (Nat.le_refl _) ?_; intro w1 hown1 hgrow1) | (gi_at_call 106; refine (turnsOf_in Fence.wide _ trivial rfl _ _).mono ?_; rintro e w' ⟨rfl, rfl⟩))
 refine ⟨trivial, (turnsOf_in Fence.wide 2 trivial rfl _ _).mono ?_⟩
 rintro e w' ⟨rfl, rfl⟩
 have z1 := hgrow1.size
 have hb1 : Below w.heap.size w w1 := (Below.refl _ _).grown hgrow1 (Nat.le_refl _) (by simp)
 have zg : w.heap.size < w1.heap.size := (hown1.lt w.heap.size rfl).2
 obtain ⟨B0, hB0⟩ : ∃ B0, B0 = w1.heap.size := ⟨_, rfl⟩
 have bV := Boxed.new w1 91 (.slice (some ⟨w.heap.size, 0, none⟩) 0 t.size)
 have bS := Boxed.new (w1.alloc (.cells #[.slice (some ⟨w.heap.size, 0, none⟩) 0 t.size] 91)) 9 (.string t)
 have bV2 := bV.alloc (.cells #[.string t] 9)
 have hr2 := (hown1.alloc (.cells #[.slice (some ⟨w.heap.size, 0, none⟩) 0 t.size] 91)).alloc (.cells #[.string t] 9)
 have hb2 : Below w.heap.size w ((w1.alloc (.cells #[.slice (some ⟨w.heap.size, 0, none⟩) 0 t.size] 91)).alloc (.cells #[.string t] 9)) := (hb1.alloc (by omega) _).alloc (by simp; omega) _
 rw [World.size_alloc] at bS
 rw [← hB0] at bV2 bS
 rw [← hB0] at zg
 have hsz : ((w1.alloc (.cells #[.slice (some ⟨w.heap.size, 0, none⟩) 0 t.size] 91)).alloc (.cells #[.string t] 9)).heap.size = B0 + 2 := by simp [hB0]
 gi_wp2
 rw [← hB0]
 generalize (w1.alloc (.cells #[.slice (some ⟨w.heap.size, 0, none⟩) 0 t.size] 91)).alloc (.cells #[.string t] 9) = W0 at bV2 bS hr2 hb2 hsz ⊢
 clear bV hown1 hgrow1 hb1 hB0 z1
 refine wpIn_rangeFunc_ownH rfl (by decide) (gf := 134) (lb := #[.pointer (some ⟨B0 + 1, 0, none⟩)]) rfl trivial (enters_of Tryz.func134 (by kernel_rfl) rfl)
  (turns_stops 2 (B0 + 1) t ht W0 (by omega) bS.cell) (fun h1 h2 => h1.trans h2)
  (fun W l o o' hl h1 h2 h3 => (belowK_b (w := W0) (n₀ := B0 + 2) (by omega) W l o o' hl h1 h2 h3).cell (p := ⟨B0 + 1, 0, none⟩) (by simp)) (Below.refl _ _) (fun _ => rfl)
  (fun pre W => ((∃ v, Boxed W B0 91 v ∧ W.ownsRow w.heap.size 94 2 v pre.length (flatT (turnV t) pre) ∧ v ≠ .slice none 0 0) ∧ Boxed W (B0 + 1) 9 (.string t)) ∧ Below w.heap.size w W)
  (fun _ _ _ => False)
  (OwnFrom.and (OwnFrom.and (Own.from (holdsRow_own w.heap.size B0 91 94 2 (fun pre => pre.length) (fun pre => flatT (turnV t) pre) (fun _ v => v ≠ .slice none 0 0)) _) (Own.from (boxed_own _ _ _) _)) (ownFrom_below (Nat.le_refl _) (by omega)))
  (fun _ _ _ _ _ hs _ _ => hs)
  ⟨⟨⟨_, bV2, hr2, by simp⟩, bS⟩, hb2⟩
  (fun x a' W => ∃ Bx, B0 + 1 < Bx ∧ W.heap[Bx]? = some (.cells #[.int .i64 (x : Nat), .string (turnV t x)] 94 (0, 0)) ∧ a' = { tmps := #[.string t, undef, .slice none 0 0, .pointer (some ⟨B0, 0, none⟩), .pointer (some ⟨Bx, 0, none⟩), .string t, .int .i64 t.size, .slice (some ⟨w.heap.size, 0, none⟩) 0 t.size, .string t, .func (.func 134) #[] #[.pointer (some ⟨B0 + 1, 0, none⟩)], .agg #[.int .i64 (x : Nat), .string (turnV t x)], undef, undef, undef, undef, undef, undef, undef], defers := [] })
  (fun x a' _ X Y row hs hg hr => by
   obtain ⟨Bx, h1, h2, h3⟩ := hs
   refine ⟨Bx, h1, (hg.block Bx (Array.getElem?_eq_some_iff.1 h2).1 (fun e => ?_)).trans h2, h3⟩
   obtain ⟨o, ho, hc⟩ := (hr Bx e.symm).2
   rw [h2] at ho
   cases ho
   cases hc)
  ?assign ?body ?done ?stop
 case assign =>
  rintro l pre x W K ⟨⟨⟨v, hv, hrow, hn⟩, hs⟩, hB⟩ hK
  gi_wp2
  exact hK _ _ ((KeepsOthers.alloc _ _).from _) ((hs.alloc _).cell.trans hs.cell.symm) ⟨⟨⟨v, hv.alloc _, hrow.alloc _, hn⟩, hs.alloc _⟩, hB.alloc hB.size _⟩ ⟨W.heap.size, hs.lt, World.alloc_heap_new W _, rfl⟩
 case body =>
  rintro l pre x a' W hl ⟨r, hr⟩ ⟨⟨⟨v, hv, hrow, hn⟩, hs⟩, hB⟩ ⟨Bx, hBx, hX, rfl⟩ hlt
  have hc := hv.cell
  have x0 : W.cell? ⟨Bx, 0, none⟩ = some (.int .i64 (x : Nat)) := by rw [cell_of_row W Bx 0 _ _ (0, 0) hX]; rfl
  have x1 : W.cell? ⟨Bx, 1, none⟩ = some (.string (turnV t x)) := by rw [cell_of_row W Bx 1 _ _ (0, 0) hX]; rfl
  have hzw := hB.size
  gi_wp2_with (gi_at_builtin; refine wpListIn_append_own _ rfl _ _ 91 rfl w.heap.size 94 i0 _ 2 24 Tryz.underlying91 hi hz0 hz1 hz2 rfl (by decide) _ _ _ rfl (hrow.alloc _) ⟨W.heap.size, 0, none⟩ 1 1 [.int .i64 (x : Nat), .string (turnV t x)] rfl rfl (two_newT _ _ _ _) (by intro u hu; simp at hu; rcases hu with rfl | rfl <;> rfl) (by unfold maxLen; omega) (by omega) (by simp; omega) ?_; intro v' w1 hown' hgrow _; obtain ⟨g', cap', rfl⟩ := ownsRow_succ hown'; obtain ⟨hv1, hv2, hr2, hk2, hb2⟩ := hv.appended (by decide) hrow hB.size (by omega) hown' hgrow; have hc1 := hv1.cell; have hf1 := hv1.frozen; have hs1 := (hs.alloc _).kept hgrow (hs.not_row (by decide) hrow))
  have hs2 := (hs1.kept (grownBy_setCell' w1 B0 _) (by simp) : Boxed (w1.setCell ⟨B0, 0, none⟩ (.slice (some ⟨g', 0, none⟩) (pre.length + 1) cap')) (B0 + 1) 9 (.string t))
  exact ⟨hk2.from _, hs2.cell.trans hs.cell.symm, ⟨⟨_, hv2, by rw [flatT_snoc, List.length_append]; exact hr2, by simp⟩, hs2⟩, hB.trans hb2⟩
 case done =>
  rintro D ys W hD rfl ⟨⟨⟨v, hv, hrow, hn⟩, hs⟩, hB⟩ hK
  have hrow' := hrow
  obtain ⟨_, hrr⟩ := hrow'
  rcases hrr with ⟨rfl, _⟩ | ⟨g, cap, cur, rfl, hg, hgb, _⟩
  ·exact absurd rfl hn
  ·have hgl : g < W.heap.size := (Array.getElem?_eq_some_iff.1 hgb).1
   have hH := holds_of_own hrow
   have hds : (List.range t.size).toArray.size = t.size := by simp
   have hid : ∀ i, i < (List.range t.size).toArray.size → dF (List.range t.size).toArray i = i := fun i hi => by
    have : i < t.size := by simpa using hi
    simp [dF, this]
   have HS := hideO (sortStable_T (turnV t) g cap (List.range t.size).toArray W hH hgl (by rw [hds]; exact ht) hid)
   rw [hds] at HS
   have hg0 : g ≠ B0 := fun e => by
    have h1 : W.heap[B0]? = _ := hv
    rw [← e, hgb] at h1
    simp at h1
   have hgD : g ≠ D := fun e => by
    rw [← e, hgb] at hK
    cases hK
   have hc := hv.cell
   rw [List.length_range] at hc hv
   have HV := hideO hv
   have HB := hideO hB
   have HK := hideO hK
   have HHd := hideO hH
   have hB0W := hv.lt
   have hDW : D < W.heap.size := (Array.getElem?_eq_some_iff.1 hK).1
   have HPI : Hid (seg (dF (List.range t.size).toArray) 0 t.size = List.range t.size) := by
    unfold Hid
    rw [seg_congr (f := dF (List.range t.size).toArray) (g := fun i => i) fun i _ h => hid i (by rw [hds]; exact h)]
    unfold seg
    rw [Nat.sub_zero, List.map_id', List.range_eq_range']
   have HTY := hideO hgb
   clear hrow hn hs hv hB hK hH hid hgb
   gi_wp2
   refine ⟨trivial, (callsIn_wide.2 HS.out).mono ?_⟩
   rintro e w' ⟨rfl, n, d', os, hw', hs', hp', hr'⟩
   have hbV : w'.heap[B0]? = W.heap[B0]? := by rw [hw']; exact world_block n d' os hB0W (fun h => hg0 h.symm)
   have hc2 : w'.cell? ⟨B0, 0, none⟩ = some (.slice (some ⟨g, 0, none⟩) t.size cap) := by
    have : Boxed w' B0 91 (.slice (some ⟨g, 0, none⟩) t.size cap) := hbV.trans HV.out
    exact this.cell
   have hK2 : w'.heap[D]? = some (.deferred (some [])) := by rw [hw', world_block n d' os hDW (fun h => hgD h.symm)]; exact HK.out
   have HH2 : Hid (HoldsK (encT (turnV t)) 2 w' g 0 d') := by
    unfold Hid
    rw [hw']
    exact world_holds HHd.out hgl n d' os (by rw [hs', hds])
   have HB2 : Hid (Below w.heap.size w w') := by
    unfold Hid
    rw [hw']
    exact HB.out.trans (world_below n d' os hg (by omega))
   have hgw : g < w'.heap.size := by rw [hw']; exact Nat.lt_of_lt_of_le hgl (world_size n d' os)
   have HP2 : Hid ((seg (dF d') 0 t.size).Perm (List.range t.size)) := by
    have := hp'.1
    rw [HPI.out] at this
    exact this
   have HTY2 : Hid (∃ cur', w'.heap[g]? = some (.cells cur' 94 (0, 0))) := by
    unfold Hid
    rw [hw']
    exact world_type HTY.out n d' os
   have HR2 := hideO hr'
   have HS2 := hideO hs'
   clear hw' hs' hp' hr' hbV
   gi_wp2
   refine ⟨by simp, .inl ⟨_, _, rfl, run_takeDeferred hK2, ?_⟩⟩
   refine ⟨_, results_tmp rfl _ _ _, g, cap, d', rfl, hg, ?_, ?_, HS2.out, HP2.out, HR2.out, ?_, ?_⟩
   ·simpa [World.putObj] using hgw
   ·exact holds_block HH2.out (World.putObj_heap_other hgD)
   ·rw [World.putObj_heap_other hgD]
    exact HTY2.out
   ·exact HB2.out.trans (belowK_b (w := w) (Nat.le_refl _) w' D _ _ (by omega) hK2 rfl rfl)
 case stop =>
  rintro D c pre W _ _ h _
  exact h.elim
end Go.Proofs.YthbpenanelbbcaaGreatDoor.So


/- An append of so many zeros onto a row of numbers of the call's own. -/
namespace Go.Proofs.YthbpenanelbbcaaGreatDoor.Ze
open Go.RowKit
theorem zeros_list (m : Nat) : (Builtin.zeroCells (Value.int .i64 0).cells m) = (List.replicate m (Value.int .i64 0)).toArray := by
 apply Array.ext'
 apply List.ext_getElem
 ·simp [Builtin.zeroCells, Value.cells]
 ·intro i h1 h2
  simp [Builtin.zeroCells, Value.cells, Nat.mod_one]
theorem one_zeros (m : Nat) : ∀ u ∈ List.replicate m (Value.int .i64 0), u.oneCell' = true := by
 intro u hu
 rw [(List.mem_replicate.1 hu).2]
 rfl
theorem run_append_zeros {P : Program} (w : World) (base : Nat) (t ti ty e : TypeId) (i : TypeInfo) (ht : P.underlying t = some (.slice e)) (hti : P.underlying ti = some (.int .i64)) (hi : P.info? e = some i) (hz : i.zero = some (.int .i64 0))
    (hsize : i.size = 1) (hby : i.bytes = 8)
    (v : Value) (n : Nat) (xs : List Value) (hown : w.ownsRow base e 1 v n xs) (m : Nat) (hs : n + m ≤ 1048576) (hbase : base ≤ w.heap.size) :
    ∃ v' w', (Builtin.append_ #[t, ti] ty #[v, .int .i64 m]).run P w = .ok v' w' ∧ w'.ownsRow base e 1 v' (n + m) (xs ++ List.replicate m (.int .i64 0)) ∧ w.grownBy w' v.ownBlock := by
  have hlen : (xs ++ List.replicate m (Value.int .i64 0)).length = (n + m) * 1 := by rw [List.length_append, hown.1, List.length_replicate]; omega
  have hwrap : IntKind.i64.wrap (m : Int) = m := by
    simp [IntKind.wrap, IntKind.bits, IntKind.signed]
    omega
  have hwrap0 : IntKind.i64.wrap 0 = 0 := by simp [IntKind.wrap, IntKind.bits, IntKind.signed]
  have h0 : ¬ ((m : Int) < 0) := by omega
  have h1 : ¬ ((m : Int) * ((8 : Nat) : Int) > 2 ^ 48) := by omega
  have grown : ∀ (old : Nat), old < n + m → ∀ (row : Option Nat),
      (w.drew.alloc (.cells (xs.toArray ++ (List.replicate m (Value.int .i64 0)).toArray ++ Builtin.zeroCells (Value.int .i64 0).cells (grownCap w (n + m) old e - (n + m))) e)).ownsRow base e 1
        (.slice (some ⟨w.heap.size, 0, none⟩) (n + m) (grownCap w (n + m) old e)) (n + m) (xs ++ List.replicate m (Value.int .i64 0)) ∧
      w.grownBy (w.drew.alloc (.cells (xs.toArray ++ (List.replicate m (Value.int .i64 0)).toArray ++ Builtin.zeroCells (Value.int .i64 0).cells (grownCap w (n + m) old e - (n + m))) e)) row := by
    intro old ho row
    have hge := grownCap_ge w (n + m) old e
    have hcm : grownCap w (n + m) old e ≤ maxLen := grownCap_le_maxLen w (n + m) old e (by unfold maxLen; omega)
    refine ⟨⟨hlen, .inr ⟨w.heap.size, _, _, rfl, hbase, heap_alloc_new w.drew _, hge, hcm, ?_, ?_⟩⟩, ⟨rfl, rfl, rfl, by simp, fun k hk _ => heap_alloc_old w.drew _ hk⟩⟩
    · have h2 := hown.1
      simp only [Array.size_append, List.size_toArray, size_zeroCells, List.length_replicate, Value.cells, List.size_toArray, List.length_cons, List.length_nil]
      omega
    · simp only [Array.toList_append, List.append_assoc]
      rw [← List.append_assoc, ← hlen]
      exact List.take_left
  have hnew : ∀ W : World, (if m * 1 = 0 then (pure #[] : Sem (Array Value)) else do pure (Builtin.zeroCells (← zeroValue e).cells m)).run P W = .ok (List.replicate m (Value.int .i64 0)).toArray W := by
    intro W
    by_cases hm : m = 0
    · subst hm
      simp
    · rw [if_neg (by omega)]
      simp [zeroValue, typeInfo, hi, hz, zeros_list]
  rcases hown.2 with ⟨rfl, rfl⟩ | ⟨g, cap, cur, rfl, hbg, hg, hnc, hcm, hcs, htake⟩
  · have hx : xs = [] := List.eq_nil_of_length_eq_zero (by simpa using hown.1)
    subst hx
    by_cases hm : m = 0
    · subst hm
      refine ⟨.slice none 0 0, w, ?_, World.ownsRow_nil w base e 1, ⟨rfl, rfl, rfl, Nat.le_refl _, fun _ _ _ => rfl⟩⟩
      simp [Builtin.append_, run_underlying ht, run_underlying hti, sizeOf, typeInfo, hi, hby, asInt, asIntOf, hwrap0]
    · have hgr := grown 0 (by omega) (Value.ownBlock (.slice none 0 0))
      simp only [Nat.zero_add, List.nil_append, Array.empty_append] at hgr ⊢
      refine ⟨_, _, ?_, hgr.1, hgr.2⟩
      have hnc : ¬ (281474976710656 < Builtin.nextslicecap m 0 * 8) := by rw [nextslicecap_zero (by omega)]; omega
      have h63' : ¬ (9223372036854775807 < (m : Int)) := by omega
      have hq : ¬ (281474976710656 < (m : Int) * 8) := by omega
      simp [Builtin.append_, run_underlying ht, run_underlying hti, sizeOf, typeInfo, zeroValue, hi, hz, hsize, hby, asInt, asIntOf, hwrap, h0, hq, hm, h63', hnc, Question.forced, run_firstCells_none, newRow, grownCap, zeros_list]
  · by_cases hroom : n + m ≤ cap
    · have hfit : n * 1 + (List.replicate m (Value.int .i64 0)).length ≤ cur.size := by rw [List.length_replicate, hcs]; omega
      have hst := run_storeCells_at P g (n * 1) e (List.replicate m (Value.int .i64 0)) 0 cur w hg (by simpa using hfit) (one_zeros m)
      simp only [Nat.add_zero] at hst
      have hq : ¬ (281474976710656 < (m : Int) * 8) := by omega
      refine ⟨.slice (some ⟨g, 0, none⟩) (n + m) cap, w.setRow g (cur.toList.take (n * 1) ++ List.replicate m (Value.int .i64 0) ++ cur.toList.drop (n * 1 + (List.replicate m (Value.int .i64 0)).length)).toArray, ?_, ⟨hlen, .inr ⟨g, cap, _, rfl, hbg, setRow_heap w g cur _ e _ hg, hroom, hcm, ?_, ?_⟩⟩, ⟨rfl, rfl, rfl, by simp, fun k _ hk => setRow_other w g k _ (fun e => hk (by simp [Value.ownBlock, e]))⟩⟩
      · by_cases hm : m = 0
        · subst hm
          simp at hst
          simp [Builtin.append_, run_underlying ht, run_underlying hti, sizeOf, typeInfo, zeroValue, hi, hsize, hby, asInt, asIntOf, hnc, Addr.add_lit, hwrap0, hst]
        · simp at hst
          simp [Builtin.append_, run_underlying ht, run_underlying hti, sizeOf, typeInfo, zeroValue, hi, hz, hsize, hby, asInt, asIntOf, hwrap, h0, hq, hm, hroom, Addr.add_lit, zeros_list, hst]
      · simp only [List.size_toArray, List.length_append, List.length_take, List.length_drop, Array.length_toList, List.length_replicate]
        omega
      · rw [htake, ← hlen]
        exact List.take_left
    · have holds : ∀ j u, xs[j]? = some u → w.cell? ((⟨g, 0, none⟩ : Addr).add j) = some u := hown.cells (g := g) rfl
      have hm : m ≠ 0 := by omega
      have hgr := grown cap (by omega) (Value.ownBlock (.slice (some ⟨g, 0, none⟩) n cap))
      refine ⟨_, _, ?_, hgr.1, hgr.2⟩
      have hfo := run_firstCells_some (P := P) w.drew 1 n ⟨g, 0, none⟩ n cap xs hown.1 (by simpa using holds)
      have hn : ¬ (n + m ≤ cap) := by omega
      have h63' : ¬ (9223372036854775807 < ((n : Int) + (m : Int))) := by omega
      have hfits : Builtin.nextslicecap (n + m) cap * 8 ≤ 281474976710656 := growslice_fits (by omega) (by omega)
      have h48' : ¬ (281474976710656 < Builtin.nextslicecap (n + m) cap * 8) := by omega
      have hq : ¬ (281474976710656 < (m : Int) * 8) := by omega
      simp [Builtin.append_, run_underlying ht, run_underlying hti, sizeOf, typeInfo, zeroValue, hi, hz, hsize, hby, asInt, asIntOf, hwrap, h0, hq, hm, hn, h63', h48', Question.forced, hfo, newRow, grownCap, zeros_list]
theorem wpList_append_zeros {P : Program} (w : World) {ops : Array Oper} {rest : List Oper} {o : Oper} {a : Act} {Q : Exit → Act → World → Prop} (hgd : o.guard = none) (s x : Operand) (t ti : TypeId)
  (ho : o.op = .call { callee := .builtin .append, args := #[s, x], argTypes := #[t, ti] })
  (base : Nat) (e : TypeId) (i : TypeInfo) (ht : P.underlying t = some (.slice e)) (hti : P.underlying ti = some (.int .i64)) (hi : P.info? e = some i) (hz : i.zero = some (.int .i64 0)) (hsize : i.size = 1) (hby : i.bytes = 8)
  (v : Value) (n : Nat) (xs : List Value) (hv : a.eval s = v) (hown : w.ownsRow base e 1 v n xs) (m : Nat) (hx : a.eval x = .int .i64 m) (hs : n + m ≤ 1048576) (hbase : base ≤ w.heap.size)
  (h : ∀ v' w', w'.ownsRow base e 1 v' (n + m) (xs ++ List.replicate m (.int .i64 0)) → w.grownBy w' v.ownBlock → wpList P ops Q rest (a.put o.dst v') w') : wpList P ops Q (o :: rest) a w :=
 wpList_plain hgd fun _ hK => by
  obtain ⟨v', w', hr, h2, h3⟩ := run_append_zeros (P := P) w base t ti o.type e i ht hti hi hz hsize hby v n xs hown m hs hbase
  unfold Oper.wp execOp
  simp only [ho, resolve, invoke, builtin, Sem.run_bind, Sem.run_pure, Result.andThen_ok, List.map_toArray, List.map_cons, List.map_nil, hv, hx, hr]
  exact hK _ _ (h v' w' h2 h3)
end Go.Proofs.YthbpenanelbbcaaGreatDoor.Ze


/- The walks of both ZerosOf. -/
namespace Go.Proofs.YthbpenanelbbcaaGreatDoor.Ze
open Go.RowKit
open Go.Proofs.YthbpenanelbbcaaGreatDoor.Bi (upTo_impl ret_boolB)
open Go.Proofs.YthbpenanelbbcaaGreatDoor.In (Ints OwnI one_newI one_cellI app_one)
open Go.Proofs.YthbpenanelbbcaaGreatDoor.In.Tryz (infoI2)
theorem OwnI.alloc {w : World} {base : Nat} {v : Value} {l : List Int} (h : OwnI w base v l) (o : Obj) : OwnI (w.alloc o) base v l :=
 h.below ((Below.refl _ _).alloc (Nat.le_refl _) o)
set_option maxRecDepth 100000 in
set_option maxHeartbeats 1000000 in
theorem putZeros_any (l : List Int) (r base : Nat) (v : Value) (w : World) (ho : OwnI w base v l) (hb : base ≤ w.heap.size) (hs : l.length + r ≤ 1048576) :
  Calls Tryz.prog 75 #[v, .int .i64 r] w fun e w' => ∃ v', e = .returned v' ∧ OwnI w' base v' (l ++ zrun r) ∧ Below base w w' := by
 obtain ⟨i0, hi0, hz0, hz1, hz2⟩ := info_parts infoI2
 have HO := hideZ ho
 obtain ⟨a, cap, rfl, _, _⟩ := ho.ints
 clear ho
 generalize hln : l.length = n at hs HO
 have HLN := hideZ hln
 clear hln
 go_enter Tryz.func75, Tryz.ntmps75
 go_wp2_with fail
 go_loopw [0, 1] (fun u m wr => ∃ (l' : List Int) (r' : Nat), m = .int .i64 r' ∧ OwnI wr base u l' ∧ l' ++ zrun r' = l ++ zrun r ∧ l'.length + r' ≤ 1048576 ∧ Below base w wr) (fun _ m _ => (intOf m).toNat)
 case atStart => exact ⟨l, r, rfl, HO.out, rfl, by have := HLN.out; omega, Below.refl _ _⟩
 case round =>
  obtain ⟨l', r', rfl, hown, he, hs', hbel⟩ := hrel
  have G1 := hideZ hown
  have GB := hideZ hbel
  have HE := hideZ he
  have hz := hbel.size
  have HS := hideZ hs'
  have hs2 : r' ≤ 1048576 := by omega
  clear he hbel hs'
  obtain ⟨a', cap', rfl, _, _⟩ := hown.ints
  clear hown
  by_cases h0 : 0 < r'
  ·by_cases h1 : r' % 2 = 1
   ·have hq : (r' : Int).tmod 2 = 1 := by rw [Int.tmod_eq_emod_of_nonneg (by omega)]; omega
    have hd : ((r' : Int) - 1).tdiv 2 = (((r' - 1) / 2 : Nat) : Int) := by rw [Int.tdiv_eq_ediv_of_nonneg (by omega)]; omega
    have HZ : Hid (l' ++ ([0] ++ zrun ((r' - 1) / 2)) = l ++ zrun r) := by
     unfold Hid
     rw [← HE.out, zrun_odd h1]
     rfl
    go_wp2_with (at_builtin; refine wpList_append_own _ rfl (.tmp 10) (.tmp 11) 59 rfl base 2 i0 (.int .i64 0) 1 8 Tryz.underlying59 hi0 hz0 hz1 hz2 rfl (by decide) _ _ _ rfl (OwnI.alloc G1.out _) ⟨wr.heap.size, 0, none⟩ 1 1 [.int .i64 0] rfl rfl (one_newI _ _ _) (one_cellI _) (by unfold maxLen; have := HS.out; omega) (by have := HS.out; omega) (by simp; omega) ?_)
    intro v' w5 hown' hgrow _
    have N5 := hideZ (OwnI.snoc hown')
    have b5 := hideZ (app_one GB.out (by omega) (Nat.le_refl _) G1.out hgrow)
    clear hown' hgrow
    go_wp2_with fail
    go_roundw
    case rel => exact ⟨l' ++ [0], (r' - 1) / 2, by go_num, N5.out, by rw [List.append_assoc]; exact HZ.out, by have := HS.out; simp; omega, b5.out⟩
    case measure => simp [intOf]; omega
   ·have hq : (r' : Int).tmod 2 = 0 := by rw [Int.tmod_eq_emod_of_nonneg (by omega)]; omega
    have hd : ((r' : Int) - 2).tdiv 2 = (((r' - 2) / 2 : Nat) : Int) := by rw [Int.tdiv_eq_ediv_of_nonneg (by omega)]; omega
    have HZ : Hid (l' ++ ([1] ++ zrun ((r' - 2) / 2)) = l ++ zrun r) := by
     unfold Hid
     rw [← HE.out, zrun_even h0 h1]
     rfl
    go_wp2_with (at_builtin; refine wpList_append_own _ rfl (.tmp 16) (.tmp 17) 59 rfl base 2 i0 (.int .i64 0) 1 8 Tryz.underlying59 hi0 hz0 hz1 hz2 rfl (by decide) _ _ _ rfl (OwnI.alloc G1.out _) ⟨wr.heap.size, 0, none⟩ 1 1 [.int .i64 1] rfl rfl (one_newI _ _ _) (one_cellI _) (by unfold maxLen; have := HS.out; omega) (by have := HS.out; omega) (by simp; omega) ?_)
    intro v' w5 hown' hgrow _
    have N5 := hideZ (OwnI.snoc hown')
    have b5 := hideZ (app_one GB.out (by omega) (Nat.le_refl _) G1.out hgrow)
    clear hown' hgrow
    go_wp2_with fail
    go_roundw
    case rel => exact ⟨l' ++ [1], (r' - 2) / 2, by go_num, N5.out, by rw [List.append_assoc]; exact HZ.out, by have := HS.out; simp; omega, b5.out⟩
    case measure => simp [intOf]; omega
  ·obtain rfl : r' = 0 := by omega
   have HZ : Hid (l' = l ++ zrun r) := by
    unfold Hid
    rw [← HE.out, zrun_zero, List.append_nil]
   go_wp2_with fail
   go_ret
   exact ⟨_, rfl, by rw [← HZ.out]; exact G1.out, GB.out⟩
end Go.Proofs.YthbpenanelbbcaaGreatDoor.Ze


/- What both ZerosOf answer. -/
namespace Go.Proofs.YthbpenanelbbcaaGreatDoor.Ze
open Go.RowKit
open Go.Proofs.YthbpenanelbbcaaGreatDoor.Bi (upTo_impl ret_boolB is_yes is_no)
open Go.Proofs.YthbpenanelbbcaaGreatDoor.In (Ints OwnI one_newI one_cellI app_one)
open Go.Proofs.YthbpenanelbbcaaGreatDoor.In.Tryz (infoI2)
theorem OwnI.empty (w : World) : OwnI (w.alloc (.cells #[] 2)) w.heap.size (.slice (some ⟨w.heap.size, 0, none⟩) 0 0) [] :=
 ⟨rfl, .inr ⟨w.heap.size, 0, #[], rfl, Nat.le_refl _, heap_alloc_last w _, Nat.le_refl _, by decide, rfl, rfl⟩⟩
set_option maxRecDepth 100000 in
set_option maxHeartbeats 1000000 in
theorem zerosOf_impl (l : List Int) (a : Option Addr) (cap B : Nat) (w : World) (hi : Ints w B a l) (hB : B ≤ w.heap.size) (hn : l.length ≤ 1048576) :
    Calls Tryz.prog 42 #[.slice a l.length cap] w fun e w' => ∃ v, e = .returned v ∧ OwnI w' w.heap.size v (zerosR l) ∧ Below w.heap.size w w' := by
  obtain ⟨i0, hi0, hz0, hz1, hz2⟩ := info_parts infoI2
  by_cases hlong : 400 < l.length
  · rw [zerosR_no (numsR_long hlong)]
    clear hi
    generalize l.length = n at hlong hn ⊢
    go_enter Tryz.func42, Tryz.ntmps42
    go_wp2_with fail
    go_ret
    exact ⟨_, rfl, OwnI.nil _ _, Below.refl _ _⟩
  · have HU := hideZ (upTo_impl l 255 a cap B w hi hn)
    cases hu : upTo l 255 with
    | false =>
      rw [zerosR_no ((numsR_of (by omega)).trans hu)]
      rw [hu] at HU
      clear hi hu
      generalize l.length = n at HU hlong hn ⊢
      have hd : decide (400 < (n : Int)) = false := decide_eq_false (by omega)
      go_enter Tryz.func42, Tryz.ntmps42
      go_wp2_with fail
      refine HU.out.mono ?_
      rintro e w' ⟨rfl, hw⟩
      subst w'
      go_wp2_with fail
      go_ret
      exact ⟨_, rfl, OwnI.nil _ _, Below.refl _ _⟩
    | true =>
      rw [zerosR_yes ((numsR_of (by omega)).trans hu)]
      have HUP := hideZ (upTo_yes hu)
      rw [hu] at HU
      have HS := hideZ (hi.mono hB)
      clear hi hu
      obtain ⟨n, hln⟩ : ∃ n, n = l.length := ⟨_, rfl⟩
      have HLN := hideZ hln
      rw [← hln] at HU hlong ⊢
      clear hln hn
      have hd : decide (400 < (n : Int)) = false := decide_eq_false (by omega)
      go_enter Tryz.func42, Tryz.ntmps42
      go_wp2_with fail
      refine HU.out.mono ?_
      rintro e w' ⟨rfl, hw⟩
      subst w'
      go_wp2_with fail
      go_loopw [17, 3, 4] (fun i u m wr => ∃ k z : Nat, i = .int .i64 k ∧ m = .int .i64 z ∧ k ≤ n ∧ z = (zst (l.take k)).2 ∧ OwnI wr w.heap.size u (zst (l.take k)).1 ∧ Below w.heap.size w wr) (fun i _ _ _ => n - (intOf i).toNat)
      case atStart => exact ⟨0, 0, rfl, rfl, Nat.zero_le _, rfl, OwnI.nil _ _, Below.refl _ _⟩
      case round =>
        obtain ⟨k, z, rfl, rfl, hk, hz, hown, hbel⟩ := hrel
        have hzl := zst_len (l.take k)
        rw [List.length_take] at hzl
        have hzk : (zst (l.take k)).1.length + z ≤ k := by omega
        have G1 := hideZ hown
        have GB := hideZ hbel
        have HZ := hideZ hz
        have hsz := hbel.size
        clear hzl
        obtain ⟨a', cap', rfl, _, _⟩ := hown.ints
        generalize hnl : (zst (l.take k)).1.length = nl at hzk G1
        have HNL := hideZ hnl
        clear hz hown hbel hnl
        by_cases hlt : k < n
        · have hkl : k < l.length := by rw [← HLN.out]; exact hlt
          obtain ⟨b, off, rfl, hb, hc⟩ := (HS.out.below GB.out).some (by omega)
          have ci := hc k hkl
          have hx255 := HUP.out _ (List.getElem_mem hkl)
          obtain ⟨x, hx⟩ : ∃ x, x = l[k] := ⟨_, rfl⟩
          have HX := hideZ hx
          rw [← hx] at ci hx255
          clear hc hx
          by_cases h0 : x = 0
          · have HZ1 : Hid (zst (l.take (k + 1)) = ((zst (l.take k)).1, z + 1)) := by
              unfold Hid
              rw [zst_zero hkl (by rw [← HX.out]; exact h0), HZ.out]
            have hbx : (x == 0) = true := beq_iff_eq.2 h0
            clear h0
            go_wp2_with fail
            go_roundw
            case rel => exact ⟨k + 1, z + 1, by go_num, by go_num, by omega, by rw [HZ1.out], by rw [HZ1.out]; exact G1.out, GB.out⟩
            case measure => simp [intOf]; omega
          · have HZ1 : Hid (zst (l.take (k + 1)) = ((zst (l.take k)).1 ++ zrun z ++ [x + 1], 0)) := by
              unfold Hid
              rw [zst_other hkl (by rw [← HX.out]; exact h0), HZ.out, HX.out]
            have hbx : (x == 0) = false := beq_eq_false_iff_ne.2 h0
            have HPZ := hideZ (putZeros_any (zst (l.take k)).1 z w.heap.size (.slice a' nl cap') wr G1.out (by omega) (by have := HNL.out; omega))
            have hrl := zrun_len z
            clear h0
            go_wp2_with fail
            refine HPZ.out.mono ?_
            rintro e w4 ⟨v4, rfl, hown4, hbel4⟩
            have HL4 : Hid (((zst (l.take k)).1 ++ zrun z).length ≤ 400) := by
              unfold Hid
              rw [List.length_append, HNL.out]
              omega
            obtain ⟨l4, hl4⟩ : ∃ l4, l4 = (zst (l.take k)).1 ++ zrun z := ⟨_, rfl⟩
            rw [← hl4] at hown4 HZ1 HL4
            have G4 := hideZ hown4
            have B4 := hideZ (GB.out.trans hbel4)
            have z4 := hbel4.size
            obtain ⟨a4, cap4, rfl, _, _⟩ := hown4.ints
            clear hown4 hbel4 hl4
            go_wp2_with (at_builtin; refine wpList_append_own _ rfl (.tmp 27) (.tmp 30) 59 rfl w.heap.size 2 i0 (.int .i64 0) 1 8 Tryz.underlying59 hi0 hz0 hz1 hz2 rfl (by decide) _ _ _ rfl (OwnI.alloc G4.out _) ⟨w4.heap.size, 0, none⟩ 1 1 [.int .i64 (x + 1)] rfl rfl (one_newI _ _ _) (one_cellI _) (by unfold maxLen; have := HL4.out; omega) (by have := HL4.out; omega) (by simp; omega) ?_)
            intro v' w5 hown' hgrow _
            have N5 := hideZ (OwnI.snoc hown')
            have b5 := hideZ (app_one B4.out (by omega) (Nat.le_refl _) G4.out hgrow)
            clear hown' hgrow
            go_wp2_with fail
            go_roundw
            case rel => exact ⟨k + 1, 0, by go_num, rfl, by omega, by rw [HZ1.out], by rw [HZ1.out]; exact N5.out, b5.out⟩
            case measure => simp [intOf]; omega
        · have hkn : k = l.length := by have := HLN.out; omega
          have HT : Hid (l.take k = l) := by
            unfold Hid
            rw [hkn, List.take_length]
          have HPZ := hideZ (putZeros_any (zst (l.take k)).1 z w.heap.size (.slice a' nl cap') wr G1.out (by omega) (by have := HNL.out; omega))
          rw [HT.out] at HPZ HZ
          rw [HZ.out] at HPZ ⊢
          clear hkn HZ
          go_wp2_with fail
          refine HPZ.out.mono ?_
          rintro e w4 ⟨v4, rfl, hown4, hbel4⟩
          have G4 := hideZ hown4
          have B4 := hideZ (GB.out.trans hbel4)
          clear hown4 hbel4
          go_wp2_with fail
          go_ret
          exact ⟨_, rfl, G4.out, B4.out⟩
end Go.Proofs.YthbpenanelbbcaaGreatDoor.Ze

