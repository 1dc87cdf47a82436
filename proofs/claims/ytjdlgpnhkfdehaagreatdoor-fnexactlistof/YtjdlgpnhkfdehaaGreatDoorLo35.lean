/- Texts put together: SoMrgLT, SoMrgT. -/
import Derived.Test.YtjdlgpnhkfdehaaGreatDoorLo34
import Derived.Test.YtjdlgpnhkfdehaaGreatDoorLo30
import Derived.Test.YtjdlgpnhkfdehaaGreatDoorLo33
/- The walk of a merge in place at turns: both parts longer than one, the middle not within the first part. -/
namespace Go.Proofs.YtjdlgpnhkfdehaaGreatDoor.So
open Go.RowKit Go.Sort Go.Proofs
set_option maxRecDepth 100000 in
set_option maxHeartbeats 8000000 in
theorem mergeL_T (T : Nat → ByteArray) (blk cap a m b : Nat) (d : Array Nat) (w : World) (hH : HoldsK (encT T) 2 w blk 0 d) (hblk : blk < w.heap.size) (ham : a + 1 < m) (hmb : m + 1 < b) (hb : b ≤ d.size) (hsz : d.size ≤ 1048576)
    (hr1 : Ris (clT T) a m (dF d)) (hr2 : Ris (clT T) m b (dF d)) (hsep : Sep a m b (dF d)) (hmid : m ≤ (a + b) / 2)
    (IH : ∀ (a' m' b' : Nat) (d' : Array Nat) (W : World), b' - a' < b - a → HoldsK (encT T) 2 W blk 0 d' → blk < W.heap.size → a' < m' → m' < b' → b' ≤ d'.size → d'.size ≤ 1048576 → Ris (clT T) a' m' (dF d') → Ris (clT T) m' b' (dF d') → Sep a' m' b' (dF d') →
      Calls Tryz.prog 255 #[.slice (some ⟨blk, 0, none⟩) d'.size cap, .int .i64 a', .int .i64 m', .int .i64 b', .func (.func 201) #[] #[]] W fun e w' =>
        e = .returned (.tuple #[]) ∧ ∃ n d'' os, w' = sortWorldK (encT T) 2 W blk 0 n d'' os ∧ d''.size = d'.size ∧ PermF a' b' (dF d') (dF d'') ∧ Ris (clT T) a' b' (dF d'')) :
    Calls Tryz.prog 255 #[.slice (some ⟨blk, 0, none⟩) d.size cap, .int .i64 a, .int .i64 m, .int .i64 b, .func (.func 201) #[] #[]] w fun e w' =>
      e = .returned (.tuple #[]) ∧ ∃ n d' os, w' = sortWorldK (encT T) 2 w blk 0 n d' os ∧ d'.size = d.size ∧ PermF a b (dF d) (dF d') ∧ Ris (clT T) a b (dF d') := by
  have mixed := mixed
  have HST := hideO (world_self hH)
  have HH := hideO hH
  have HR1 := hideO hr1
  have HR2 := hideO hr2
  have HSP := hideO hsep
  have HIH := hideO IH
  clear hH hr1 hr2 hsep IH
  obtain ⟨z, hz⟩ : ∃ z, z = d.size := ⟨_, rfl⟩
  have HZ := hideO hz
  rw [← hz] at hb hsz ⊢
  clear hz
  obtain ⟨f, hf⟩ : ∃ f, f = dF d := ⟨_, rfl⟩
  have HFD := hideO hf
  rw [← hf] at HR1 HR2 HSP ⊢
  clear hf
  obtain ⟨mid, hmd⟩ : ∃ mid, mid = (a + b) / 2 := ⟨_, rfl⟩
  obtain ⟨nn, hnn⟩ : ∃ nn, nn = mid + m := ⟨_, rfl⟩
  obtain ⟨p, hp⟩ : ∃ p, nn = p + 1 := ⟨nn - 1, by omega⟩
  obtain ⟨s0, hs0⟩ : ∃ s0, s0 = a := ⟨_, rfl⟩
  have em : ((a : Int) + (b : Int)) / 2 = (mid : Int) := by omega
  have en : (mid : Int) + (m : Int) = (nn : Int) := by omega
  have ep : (nn : Int) - 1 = (p : Int) := by omega
  have es : s0 = a := hs0
  have hma : ((m : Int) - (a : Int) == 1) = false := beq_eq_false_iff_ne.2 (by omega)
  have hbm : ((b : Int) - (m : Int) == 1) = false := beq_eq_false_iff_ne.2 (by omega)
  have hmm : ¬ (mid : Int) < (m : Int) := by omega
  have HREL : Hid (2 * mid ≤ a + b ∧ a + b ≤ 2 * mid + 1 ∧ nn = mid + m ∧ nn = p + 1 ∧ s0 = a ∧ m ≤ mid) := by
    unfold Hid
    omega
  have hmz : mid < z := by omega
  have hpz : p < 2 * z := by omega
  have hmw : IntKind.i64.wrap (mid : Int) = (mid : Int) := by rw [IntKind.wrap_i64]; omega
  clear hmd hnn hp hs0 hmid es
  go_enter Tryz.func255, Tryz.ntmps255
  go_wp2_with fail
  clear em en hma hbm
  go_loopw [20, 21] (fun u v wr => ∃ (i j n : Nat) (os : Array Obj), u = .int .i64 i ∧ v = .int .i64 j ∧ s0 ≤ i ∧ i ≤ j ∧ j ≤ m ∧ (s0 < i → lx (clT T) (f (i - 1)) (f (p - (i - 1)))) ∧ (j < m → lx (clT T) (f (p - j)) (f j)) ∧ wr = sortWorldK (encT T) 2 w blk 0 n d os) (fun u v _ => (intOf v).toNat - (intOf u).toNat)
  case atStart =>
    have hrel := HREL.out
    exact ⟨a, m, 0, #[], rfl, rfl, by omega, by omega, Nat.le_refl _, fun h => absurd h (by omega), fun h => absurd h (by omega), HST.out⟩
  case round =>
    obtain ⟨i, j, n, os, rfl, rfl, hsi, hij, hjr, hlo, hhi, hwr⟩ := hrel
    have hrel := HREL.out
    have HLO := hideO hlo
    have HHI := hideO hhi
    have HW := hideO hwr
    clear hlo hhi
    by_cases hlt : i < j
    · obtain ⟨c, hc⟩ : ∃ c, c = (i + j) / 2 := ⟨_, rfl⟩
      obtain ⟨q, hq⟩ : ∃ q, p = q + c := ⟨p - c, by omega⟩
      have e1 : ((i : Int) + (j : Int)) / 2 = (c : Int) := by omega
      have e2 : (p : Int) - (c : Int) = (q : Int) := by omega
      have hic : i ≤ c := by omega
      have hcj : c < j := by omega
      have hcm : c < m := by omega
      have hac : a ≤ c := by omega
      have hmq : m ≤ q := by omega
      have hqb : q < b := by omega
      have hHj : HoldsK (encT T) 2 wr blk 0 d := by rw [hwr]; exact world_holds HH.out hblk n d os rfl
      have hbw : blk < wr.heap.size := by rw [hwr]; exact Nat.lt_of_lt_of_le hblk (world_size n d os)
      obtain ⟨x0c, x0f, x1c, x1f⟩ := cells_T hHj (i := q) (by have := HZ.out; omega)
      obtain ⟨y0c, y0f, y1c, y1f⟩ := cells_T hHj (i := c) (by have := HZ.out; omega)
      obtain ⟨x, hx⟩ : ∃ x, x = d[q]! := ⟨_, rfl⟩
      obtain ⟨y, hy⟩ : ∃ y, y = d[c]! := ⟨_, rfl⟩
      have HXY : Hid (x = f q ∧ y = f c) := ⟨by rw [hx, HFD.out]; rfl, by rw [hy, HFD.out]; rfl⟩
      rw [← hx] at x0c x1c
      rw [← hy] at y0c y1c
      have g0 := fun n' os' => cell_grown (a := ⟨blk, q * 2, none⟩) hbw x0c n' os'
      have g1 := fun n' os' => cell_grown (a := ⟨blk, q * 2 + 1, none⟩) hbw x1c n' os'
      have g2 := fun n' os' => cell_grown (a := ⟨blk, c * 2, none⟩) hbw y0c n' os'
      have g3 := fun n' os' => cell_grown (a := ⟨blk, c * 2 + 1, none⟩) hbw y1c n' os'
      have HCM : Hid (∀ W, Calls Tryz.prog 201 #[.agg #[.int .i64 x, .string (T x)], .agg #[.int .i64 y, .string (T y)]] W fun e w' => e = .returned (.int .i64 (cfT T x y)) ∧ ∃ q os', w' = grow (W.drewN q) os') := fun W => cmp_T T x y W
      have hneg := cfT_neg T x y
      obtain ⟨r, hr⟩ : ∃ r, r = cfT T x y := ⟨_, rfl⟩
      rw [← hr] at hneg HCM
      have hz1 : (q : Int) < (z : Int) := by omega
      have hz2 : (c : Int) < (z : Int) := by omega
      have hqw : IntKind.i64.wrap (q : Int) = (q : Int) := by rw [IntKind.wrap_i64]; omega
      have HCLS := hideO (fun n' os' => sortWorldK_grown_c (encT T) 2 w blk 0 n n' d os os')
      rw [← hwr] at HCLS
      have HQC : Hid (p - c = q) := by
        unfold Hid
        omega
      clear hr hx hy hwr hc hq x0c x0f x1c x1f y0c y0f y1c y1f hHj hbw hrel
      cases hcb : clT T x y with
      | false =>
        rw [hcb] at hneg
        have hlv : ¬ r < 0 := of_decide_eq_false hneg
        have hlv' : decide (r < 0) = false := hneg
        have HL2 : Hid (lx (clT T) (f c) (f (p - c))) := by
          unfold Hid
          rw [HQC.out]
          have hpl := HSP.out c q hac hcm hmq hqb
          rw [← HXY.out.1, ← HXY.out.2] at hpl ⊢
          exact lx_no hcb hpl
        clear hneg
        go_wp2_with fail
        go_quiet_grown (first | (go_at_call 201; refine Calls.grown_of (HCM.out _)))
        have HW2 : Hid (grow (wr.drewN nq) osq = sortWorldK (encT T) 2 w blk 0 (n + nq) d (os ++ osq)) := HCLS.out nq osq
        dsimp only
        clear g0 g1 g2 g3
        go_wp2_with fail
        go_roundw
        case rel => exact ⟨c + 1, j, n + nq, os ++ osq, by go_num, rfl, by omega, by omega, hjr, fun _ => HL2.out, HHI.out, HW2.out⟩
        case measure => simp [intOf]; omega
      | true =>
        rw [hcb] at hneg
        have hlv : r < 0 := of_decide_eq_true hneg
        have hlv' : decide (r < 0) = true := hneg
        have HL2 : Hid (lx (clT T) (f (p - c)) (f c)) := by
          unfold Hid
          rw [HQC.out, ← HXY.out.1, ← HXY.out.2]
          exact lx_yes hcb
        clear hneg
        go_wp2_with fail
        go_quiet_grown (first | (go_at_call 201; refine Calls.grown_of (HCM.out _)))
        have HW2 : Hid (grow (wr.drewN nq) osq = sortWorldK (encT T) 2 w blk 0 (n + nq) d (os ++ osq)) := HCLS.out nq osq
        dsimp only
        clear g0 g1 g2 g3
        go_wp2_with fail
        go_roundw
        case rel => exact ⟨i, c, n + nq, os ++ osq, rfl, rfl, hsi, by omega, by omega, HLO.out, fun _ => HL2.out, HW2.out⟩
        case measure => simp [intOf]; omega
    · obtain rfl : i = j := by omega
      obtain ⟨e, he⟩ : ∃ e, nn = e + i := ⟨nn - i, by omega⟩
      have ee : (nn : Int) - (i : Int) = (e : Int) := by omega
      have hcut : Cut (clT T) a m b mid i e f := by
        refine ⟨by omega, by omega, by omega, by omega, by omega, by omega, by omega, fun h1 h2 => ?_, fun h1 h2 => ?_⟩
        · have := HLO.out (by omega)
          rwa [show p - (i - 1) = e by omega] at this
        · have := HHI.out (by omega)
          rwa [show p - i = e - 1 by omega] at this
      have HC := hideO hcut
      have HRL : Hid (a ≤ i ∧ i ≤ mid ∧ mid ≤ e ∧ e ≤ b ∧ i ≤ m ∧ m ≤ e ∧ i + e = mid + m) := ⟨hcut.as, hcut.smid, hcut.mide, hcut.eb, hcut.sm, hcut.me, hcut.sum⟩
      have HBM : Hid (mid - a < b - a ∧ b - mid < b - a ∧ a < mid ∧ mid < b) := by
        unfold Hid
        omega
      have hez : e ≤ z := by have := hcut.eb; omega
      have hew : IntKind.i64.wrap (e : Int) = (e : Int) := by rw [IntKind.wrap_i64]; omega
      have hiz : i ≤ z := by have := hcut.sm; omega
      have HG0 : Hid (dF d = f) := HFD.out.symm
      clear he hcut hlt hij hsi hjr hrel
      have HWc := HW
      have hwz : Hid (d.size = z) := HZ.out.symm
      by_cases k0 : a < i
      · by_cases k1 : i < mid
        · by_cases k2 : i < m
          · by_cases k3 : e < b
            · have pim : (i : Int) < (m : Int) := by have := HRL.out; omega
              have him : decide ((i : Int) < (m : Int)) = true := decide_eq_true pim
              have pme : (m : Int) < (e : Int) := by have := HRL.out; omega
              have hme : decide ((m : Int) < (e : Int)) = true := decide_eq_true pme
              have pai : (a : Int) < (i : Int) := by have := HRL.out; omega
              have hai : decide ((a : Int) < (i : Int)) = true := decide_eq_true pai
              have pimid : (i : Int) < (mid : Int) := by have := HRL.out; omega
              have himid : decide ((i : Int) < (mid : Int)) = true := decide_eq_true pimid
              have pmide : (mid : Int) < (e : Int) := by have := HRL.out; omega
              have hmide : decide ((mid : Int) < (e : Int)) = true := decide_eq_true pmide
              have peb : (e : Int) < (b : Int) := by have := HRL.out; omega
              have heb : decide ((e : Int) < (b : Int)) = true := decide_eq_true peb
              obtain ⟨g, hg⟩ : ∃ g, g = rotF i m e f := ⟨_, rfl⟩
              have HGE := hideO hg
              have HPG : Hid (PermF a b f g) := by rw [hg]; exact HC.out.perm
              have HA1 : Hid (Ris (clT T) a i g) := by rw [hg]; exact HC.out.ris1 HR1.out
              have HB1 : Hid (Ris (clT T) i mid g) := by rw [hg]; exact HC.out.ris2 HR2.out
              have HA2 : Hid (Ris (clT T) mid e g) := by rw [hg]; exact HC.out.ris3 HR1.out
              have HB2 : Hid (Ris (clT T) e b g) := by rw [hg]; exact HC.out.ris4 HR2.out
              have HS1 : Hid (Sep a i mid g) := by rw [hg]; exact HC.out.sep1 HSP.out
              have HS2 : Hid (Sep mid e b g) := by rw [hg]; exact HC.out.sep2 HSP.out
              have HX : Hid (∀ u v, a ≤ u → u < mid → mid ≤ v → v < b → lx (clT T) (g u) (g v)) := by rw [hg]; exact HC.out.cross (clT_weak T) HR1.out HR2.out
              clear hg hwr
              have HK1 := hideO (rotate_T T blk cap i m e d wr (.func (.func 201) #[] #[]) (by rw [HW.out]; exact world_holds HH.out hblk n d os rfl) (by rw [HW.out]; exact Nat.lt_of_lt_of_le hblk (world_size n d os)) (by have := HRL.out; omega) (by have := HRL.out; omega) (by rw [hwz.out]; exact hez) (by rw [hwz.out]; exact hsz))
              rw [hwz.out] at HK1
              go_wp2_with fail
              refine HK1.out.mono ?_
              rintro er w1 ⟨rfl, n1, d1, hw1, hs1, hf1⟩
              have HW1 : Hid (w1 = sortWorldK (encT T) 2 w blk 0 (n + n1) d1 (os ++ #[])) := by
                unfold Hid
                rw [hw1, HW.out]
                exact world_world n n1 d d1 os #[] hblk (hs1.trans hwz.out.symm)
              have HS1' : Hid (d1.size = z) := hs1
              have HG1 : Hid (dF d1 = g) := by
                unfold Hid
                rw [hf1, HG0.out, HGE.out]
              clear hw1 hs1 hf1 HK1
              have HK2 := hideO (HIH.out a i mid d1 w1 HBM.out.1 (by rw [HW1.out]; exact world_holds HH.out hblk (n + n1) d1 (os ++ #[]) (HS1'.out.trans HZ.out)) (by rw [HW1.out]; exact Nat.lt_of_lt_of_le hblk (world_size (n + n1) d1 (os ++ #[]))) (by have := HRL.out; omega) (by have := HRL.out; omega) (by rw [HS1'.out]; omega) (by rw [HS1'.out]; exact hsz) (by rw [HG1.out]; exact HA1.out) (by rw [HG1.out]; exact HB1.out) (by rw [HG1.out]; exact HS1.out))
              rw [HS1'.out] at HK2
              go_wp2_with fail
              refine HK2.out.mono ?_
              rintro er w2 ⟨rfl, n2, d2, os2, hw2, hs2, hp2, hr2⟩
              have HW2 : Hid (w2 = sortWorldK (encT T) 2 w blk 0 ((n + n1) + n2) d2 ((os ++ #[]) ++ os2)) := by
                unfold Hid
                rw [hw2, HW1.out]
                exact world_world (n + n1) n2 d1 d2 (os ++ #[]) os2 hblk (hs2.trans HS1'.out.symm)
              have HS2' : Hid (d2.size = z) := hs2
              rw [HG1.out] at hp2
              have HP2 := hideO hp2
              have HR2' := hideO hr2
              clear hw2 hs2 hp2 hr2 HK2
              have HE2 : Hid (∀ k, mid ≤ k → dF d2 k = g k) := fun k hk => HP2.out.2 k (Or.inr hk)
              have HK3 := hideO (HIH.out mid e b d2 w2 HBM.out.2.1 (by rw [HW2.out]; exact world_holds HH.out hblk ((n + n1) + n2) d2 ((os ++ #[]) ++ os2) (HS2'.out.trans HZ.out)) (by rw [HW2.out]; exact Nat.lt_of_lt_of_le hblk (world_size ((n + n1) + n2) d2 ((os ++ #[]) ++ os2))) (by have := HRL.out; omega) (by have := HRL.out; omega) (by rw [HS2'.out]; omega) (by rw [HS2'.out]; exact hsz) (HA2.out.congr (fun k h1 _ => HE2.out k h1)) (HB2.out.congr (fun k h1 _ => HE2.out k (by have := HRL.out; omega))) (fun u v h1 h2 h3 h4 => by rw [HE2.out u h1, HE2.out v (by omega)]; exact HS2.out u v h1 h2 h3 h4))
              rw [HS2'.out] at HK3
              go_wp2_with fail
              refine HK3.out.mono ?_
              rintro er w3 ⟨rfl, n3, d3, os3, hw3, hs3, hp3, hr3⟩
              have HW3 : Hid (w3 = sortWorldK (encT T) 2 w blk 0 (((n + n1) + n2) + n3) d3 (((os ++ #[]) ++ os2) ++ os3)) := by
                unfold Hid
                rw [hw3, HW2.out]
                exact world_world ((n + n1) + n2) n3 d2 d3 ((os ++ #[]) ++ os2) os3 hblk (hs3.trans HS2'.out.symm)
              have HS3' : Hid (d3.size = z) := hs3
              have HFIN := hideO (halves HX.out (Nat.le_of_lt HBM.out.2.2.1) (Nat.le_of_lt HBM.out.2.2.2) HP2.out hp3 HR2'.out hr3)
              clear hw3 hs3 hp3 hr3 HK3
              go_wp2_with fail
              refine bodyPost_end (v := .tuple #[]) (by simp [results, Tryz.results255, go_sem]) rfl ⟨rfl, (((n + n1) + n2) + n3), d3, (((os ++ #[]) ++ os2) ++ os3), HW3.out, HS3'.out, HPG.out.trans HFIN.out.1, HFIN.out.2⟩
            · have pim : (i : Int) < (m : Int) := by have := HRL.out; omega
              have him : decide ((i : Int) < (m : Int)) = true := decide_eq_true pim
              have pme : (m : Int) < (e : Int) := by have := HRL.out; omega
              have hme : decide ((m : Int) < (e : Int)) = true := decide_eq_true pme
              have pai : (a : Int) < (i : Int) := by have := HRL.out; omega
              have hai : decide ((a : Int) < (i : Int)) = true := decide_eq_true pai
              have pimid : (i : Int) < (mid : Int) := by have := HRL.out; omega
              have himid : decide ((i : Int) < (mid : Int)) = true := decide_eq_true pimid
              have pmide : (mid : Int) < (e : Int) := by have := HRL.out; omega
              have hmide : decide ((mid : Int) < (e : Int)) = true := decide_eq_true pmide
              have peb : ¬ (e : Int) < (b : Int) := by have := HRL.out; omega
              have heb : decide ((e : Int) < (b : Int)) = false := decide_eq_false peb
              obtain ⟨g, hg⟩ : ∃ g, g = rotF i m e f := ⟨_, rfl⟩
              have HGE := hideO hg
              have HPG : Hid (PermF a b f g) := by rw [hg]; exact HC.out.perm
              have HA1 : Hid (Ris (clT T) a i g) := by rw [hg]; exact HC.out.ris1 HR1.out
              have HB1 : Hid (Ris (clT T) i mid g) := by rw [hg]; exact HC.out.ris2 HR2.out
              have HA2 : Hid (Ris (clT T) mid e g) := by rw [hg]; exact HC.out.ris3 HR1.out
              have HB2 : Hid (Ris (clT T) e b g) := by rw [hg]; exact HC.out.ris4 HR2.out
              have HS1 : Hid (Sep a i mid g) := by rw [hg]; exact HC.out.sep1 HSP.out
              have HS2 : Hid (Sep mid e b g) := by rw [hg]; exact HC.out.sep2 HSP.out
              have HX : Hid (∀ u v, a ≤ u → u < mid → mid ≤ v → v < b → lx (clT T) (g u) (g v)) := by rw [hg]; exact HC.out.cross (clT_weak T) HR1.out HR2.out
              clear hg hwr
              have HK1 := hideO (rotate_T T blk cap i m e d wr (.func (.func 201) #[] #[]) (by rw [HW.out]; exact world_holds HH.out hblk n d os rfl) (by rw [HW.out]; exact Nat.lt_of_lt_of_le hblk (world_size n d os)) (by have := HRL.out; omega) (by have := HRL.out; omega) (by rw [hwz.out]; exact hez) (by rw [hwz.out]; exact hsz))
              rw [hwz.out] at HK1
              go_wp2_with fail
              refine HK1.out.mono ?_
              rintro er w1 ⟨rfl, n1, d1, hw1, hs1, hf1⟩
              have HW1 : Hid (w1 = sortWorldK (encT T) 2 w blk 0 (n + n1) d1 (os ++ #[])) := by
                unfold Hid
                rw [hw1, HW.out]
                exact world_world n n1 d d1 os #[] hblk (hs1.trans hwz.out.symm)
              have HS1' : Hid (d1.size = z) := hs1
              have HG1 : Hid (dF d1 = g) := by
                unfold Hid
                rw [hf1, HG0.out, HGE.out]
              clear hw1 hs1 hf1 HK1
              have HK2 := hideO (HIH.out a i mid d1 w1 HBM.out.1 (by rw [HW1.out]; exact world_holds HH.out hblk (n + n1) d1 (os ++ #[]) (HS1'.out.trans HZ.out)) (by rw [HW1.out]; exact Nat.lt_of_lt_of_le hblk (world_size (n + n1) d1 (os ++ #[]))) (by have := HRL.out; omega) (by have := HRL.out; omega) (by rw [HS1'.out]; omega) (by rw [HS1'.out]; exact hsz) (by rw [HG1.out]; exact HA1.out) (by rw [HG1.out]; exact HB1.out) (by rw [HG1.out]; exact HS1.out))
              rw [HS1'.out] at HK2
              go_wp2_with fail
              refine HK2.out.mono ?_
              rintro er w2 ⟨rfl, n2, d2, os2, hw2, hs2, hp2, hr2⟩
              have HW2 : Hid (w2 = sortWorldK (encT T) 2 w blk 0 ((n + n1) + n2) d2 ((os ++ #[]) ++ os2)) := by
                unfold Hid
                rw [hw2, HW1.out]
                exact world_world (n + n1) n2 d1 d2 (os ++ #[]) os2 hblk (hs2.trans HS1'.out.symm)
              have HS2' : Hid (d2.size = z) := hs2
              rw [HG1.out] at hp2
              have HP2 := hideO hp2
              have HR2' := hideO hr2
              clear hw2 hs2 hp2 hr2 HK2
              have HR3 : Hid (Ris (clT T) mid b (dF d2)) := by
                unfold Hid
                have hr := HRL.out
                refine Ris.congr (f := g) ?_ (fun k h1 _ => HP2.out.2 k (Or.inr h1))
                exact HA2.out.sub (Nat.le_refl _) (by omega)
              have HFIN := hideO (halves HX.out (Nat.le_of_lt HBM.out.2.2.1) (Nat.le_of_lt HBM.out.2.2.2) HP2.out (PermF.refl mid b (dF d2)) HR2'.out HR3.out)
              go_wp2_with fail
              refine bodyPost_end (v := .tuple #[]) (by simp [results, Tryz.results255, go_sem]) rfl ⟨rfl, ((n + n1) + n2), d2, ((os ++ #[]) ++ os2), HW2.out, HS2'.out, HPG.out.trans HFIN.out.1, HFIN.out.2⟩
          · by_cases k3 : e < b
            · have pim : ¬ (i : Int) < (m : Int) := by have := HRL.out; omega
              have him : decide ((i : Int) < (m : Int)) = false := decide_eq_false pim
              have pme : (m : Int) < (e : Int) := by have := HRL.out; omega
              have hme : decide ((m : Int) < (e : Int)) = true := decide_eq_true pme
              have pai : (a : Int) < (i : Int) := by have := HRL.out; omega
              have hai : decide ((a : Int) < (i : Int)) = true := decide_eq_true pai
              have pimid : (i : Int) < (mid : Int) := by have := HRL.out; omega
              have himid : decide ((i : Int) < (mid : Int)) = true := decide_eq_true pimid
              have pmide : ¬ (mid : Int) < (e : Int) := by have := HRL.out; omega
              have hmide : decide ((mid : Int) < (e : Int)) = false := decide_eq_false pmide
              have peb : (e : Int) < (b : Int) := by have := HRL.out; omega
              have heb : decide ((e : Int) < (b : Int)) = true := decide_eq_true peb
              obtain ⟨g, hg⟩ : ∃ g, g = rotF i m e f := ⟨_, rfl⟩
              have HGE := hideO hg
              have HPG : Hid (PermF a b f g) := by rw [hg]; exact HC.out.perm
              have HA1 : Hid (Ris (clT T) a i g) := by rw [hg]; exact HC.out.ris1 HR1.out
              have HB1 : Hid (Ris (clT T) i mid g) := by rw [hg]; exact HC.out.ris2 HR2.out
              have HA2 : Hid (Ris (clT T) mid e g) := by rw [hg]; exact HC.out.ris3 HR1.out
              have HB2 : Hid (Ris (clT T) e b g) := by rw [hg]; exact HC.out.ris4 HR2.out
              have HS1 : Hid (Sep a i mid g) := by rw [hg]; exact HC.out.sep1 HSP.out
              have HS2 : Hid (Sep mid e b g) := by rw [hg]; exact HC.out.sep2 HSP.out
              have HX : Hid (∀ u v, a ≤ u → u < mid → mid ≤ v → v < b → lx (clT T) (g u) (g v)) := by rw [hg]; exact HC.out.cross (clT_weak T) HR1.out HR2.out
              clear hg hwr
              have HG1 : Hid (dF d = g) := by
                unfold Hid
                have hr := HRL.out
                rw [HG0.out, HGE.out, rot_none f (by omega) (by omega) (by omega)]
              have HK2 := hideO (HIH.out a i mid d wr HBM.out.1 (by rw [HW.out]; exact world_holds HH.out hblk n d os (hwz.out.trans HZ.out)) (by rw [HW.out]; exact Nat.lt_of_lt_of_le hblk (world_size n d os)) (by have := HRL.out; omega) (by have := HRL.out; omega) (by rw [hwz.out]; omega) (by rw [hwz.out]; exact hsz) (by rw [HG1.out]; exact HA1.out) (by rw [HG1.out]; exact HB1.out) (by rw [HG1.out]; exact HS1.out))
              rw [hwz.out] at HK2
              go_wp2_with fail
              refine HK2.out.mono ?_
              rintro er w2 ⟨rfl, n2, d2, os2, hw2, hs2, hp2, hr2⟩
              have HW2 : Hid (w2 = sortWorldK (encT T) 2 w blk 0 (n + n2) d2 (os ++ os2)) := by
                unfold Hid
                rw [hw2, HW.out]
                exact world_world n n2 d d2 os os2 hblk (hs2.trans hwz.out.symm)
              have HS2' : Hid (d2.size = z) := hs2
              rw [HG1.out] at hp2
              have HP2 := hideO hp2
              have HR2' := hideO hr2
              clear hw2 hs2 hp2 hr2 HK2
              have HR3 : Hid (Ris (clT T) mid b (dF d2)) := by
                unfold Hid
                have hr := HRL.out
                refine Ris.congr (f := g) ?_ (fun k h1 _ => HP2.out.2 k (Or.inr h1))
                exact HB2.out.sub (by omega) (Nat.le_refl _)
              have HFIN := hideO (halves HX.out (Nat.le_of_lt HBM.out.2.2.1) (Nat.le_of_lt HBM.out.2.2.2) HP2.out (PermF.refl mid b (dF d2)) HR2'.out HR3.out)
              go_wp2_with fail
              refine bodyPost_end (v := .tuple #[]) (by simp [results, Tryz.results255, go_sem]) rfl ⟨rfl, (n + n2), d2, (os ++ os2), HW2.out, HS2'.out, HPG.out.trans HFIN.out.1, HFIN.out.2⟩
            · exact absurd HRL.out (by have := HBM.out; omega)
        · by_cases k2 : i < m
          · by_cases k3 : e < b
            · exact absurd HRL.out (by have := HBM.out; omega)
            · exact absurd HRL.out (by have := HBM.out; omega)
          · by_cases k3 : e < b
            · have pim : ¬ (i : Int) < (m : Int) := by have := HRL.out; omega
              have him : decide ((i : Int) < (m : Int)) = false := decide_eq_false pim
              have pme : ¬ (m : Int) < (e : Int) := by have := HRL.out; omega
              have hme : decide ((m : Int) < (e : Int)) = false := decide_eq_false pme
              have pai : (a : Int) < (i : Int) := by have := HRL.out; omega
              have hai : decide ((a : Int) < (i : Int)) = true := decide_eq_true pai
              have pimid : ¬ (i : Int) < (mid : Int) := by have := HRL.out; omega
              have himid : decide ((i : Int) < (mid : Int)) = false := decide_eq_false pimid
              have pmide : ¬ (mid : Int) < (e : Int) := by have := HRL.out; omega
              have hmide : decide ((mid : Int) < (e : Int)) = false := decide_eq_false pmide
              have peb : (e : Int) < (b : Int) := by have := HRL.out; omega
              have heb : decide ((e : Int) < (b : Int)) = true := decide_eq_true peb
              obtain ⟨g, hg⟩ : ∃ g, g = rotF i m e f := ⟨_, rfl⟩
              have HGE := hideO hg
              have HPG : Hid (PermF a b f g) := by rw [hg]; exact HC.out.perm
              have HA1 : Hid (Ris (clT T) a i g) := by rw [hg]; exact HC.out.ris1 HR1.out
              have HB1 : Hid (Ris (clT T) i mid g) := by rw [hg]; exact HC.out.ris2 HR2.out
              have HA2 : Hid (Ris (clT T) mid e g) := by rw [hg]; exact HC.out.ris3 HR1.out
              have HB2 : Hid (Ris (clT T) e b g) := by rw [hg]; exact HC.out.ris4 HR2.out
              have HS1 : Hid (Sep a i mid g) := by rw [hg]; exact HC.out.sep1 HSP.out
              have HS2 : Hid (Sep mid e b g) := by rw [hg]; exact HC.out.sep2 HSP.out
              have HX : Hid (∀ u v, a ≤ u → u < mid → mid ≤ v → v < b → lx (clT T) (g u) (g v)) := by rw [hg]; exact HC.out.cross (clT_weak T) HR1.out HR2.out
              clear hg hwr
              have HG1 : Hid (dF d = g) := by
                unfold Hid
                have hr := HRL.out
                rw [HG0.out, HGE.out, rot_none f (by omega) (by omega) (by omega)]
              have HP2 : Hid (PermF a mid g (dF d)) := by
                unfold Hid
                rw [HG1.out]
                exact PermF.refl _ _ _
              have HR2' : Hid (Ris (clT T) a mid (dF d)) := by
                unfold Hid
                rw [HG1.out]
                have hr := HRL.out
                exact HA1.out.sub (Nat.le_refl _) (by omega)
              have HR3 : Hid (Ris (clT T) mid b (dF d)) := by
                unfold Hid
                have hr := HRL.out
                refine Ris.congr (f := g) ?_ (fun k h1 _ => HP2.out.2 k (Or.inr h1))
                exact HB2.out.sub (by omega) (Nat.le_refl _)
              have HFIN := hideO (halves HX.out (Nat.le_of_lt HBM.out.2.2.1) (Nat.le_of_lt HBM.out.2.2.2) HP2.out (PermF.refl mid b (dF d)) HR2'.out HR3.out)
              go_wp2_with fail
              refine bodyPost_end (v := .tuple #[]) (by simp [results, Tryz.results255, go_sem]) rfl ⟨rfl, n, d, ⟨os, HW.out⟩, hwz.out, HPG.out.trans HFIN.out.1, HFIN.out.2⟩
            · exact absurd HRL.out (by have := HBM.out; omega)
      · by_cases k1 : i < mid
        · by_cases k2 : i < m
          · by_cases k3 : e < b
            · have pim : (i : Int) < (m : Int) := by have := HRL.out; omega
              have him : decide ((i : Int) < (m : Int)) = true := decide_eq_true pim
              have pme : (m : Int) < (e : Int) := by have := HRL.out; omega
              have hme : decide ((m : Int) < (e : Int)) = true := decide_eq_true pme
              have pai : ¬ (a : Int) < (i : Int) := by have := HRL.out; omega
              have hai : decide ((a : Int) < (i : Int)) = false := decide_eq_false pai
              have pimid : (i : Int) < (mid : Int) := by have := HRL.out; omega
              have himid : decide ((i : Int) < (mid : Int)) = true := decide_eq_true pimid
              have pmide : (mid : Int) < (e : Int) := by have := HRL.out; omega
              have hmide : decide ((mid : Int) < (e : Int)) = true := decide_eq_true pmide
              have peb : (e : Int) < (b : Int) := by have := HRL.out; omega
              have heb : decide ((e : Int) < (b : Int)) = true := decide_eq_true peb
              obtain ⟨g, hg⟩ : ∃ g, g = rotF i m e f := ⟨_, rfl⟩
              have HGE := hideO hg
              have HPG : Hid (PermF a b f g) := by rw [hg]; exact HC.out.perm
              have HA1 : Hid (Ris (clT T) a i g) := by rw [hg]; exact HC.out.ris1 HR1.out
              have HB1 : Hid (Ris (clT T) i mid g) := by rw [hg]; exact HC.out.ris2 HR2.out
              have HA2 : Hid (Ris (clT T) mid e g) := by rw [hg]; exact HC.out.ris3 HR1.out
              have HB2 : Hid (Ris (clT T) e b g) := by rw [hg]; exact HC.out.ris4 HR2.out
              have HS1 : Hid (Sep a i mid g) := by rw [hg]; exact HC.out.sep1 HSP.out
              have HS2 : Hid (Sep mid e b g) := by rw [hg]; exact HC.out.sep2 HSP.out
              have HX : Hid (∀ u v, a ≤ u → u < mid → mid ≤ v → v < b → lx (clT T) (g u) (g v)) := by rw [hg]; exact HC.out.cross (clT_weak T) HR1.out HR2.out
              clear hg hwr
              have HK1 := hideO (rotate_T T blk cap i m e d wr (.func (.func 201) #[] #[]) (by rw [HW.out]; exact world_holds HH.out hblk n d os rfl) (by rw [HW.out]; exact Nat.lt_of_lt_of_le hblk (world_size n d os)) (by have := HRL.out; omega) (by have := HRL.out; omega) (by rw [hwz.out]; exact hez) (by rw [hwz.out]; exact hsz))
              rw [hwz.out] at HK1
              go_wp2_with fail
              refine HK1.out.mono ?_
              rintro er w1 ⟨rfl, n1, d1, hw1, hs1, hf1⟩
              have HW1 : Hid (w1 = sortWorldK (encT T) 2 w blk 0 (n + n1) d1 (os ++ #[])) := by
                unfold Hid
                rw [hw1, HW.out]
                exact world_world n n1 d d1 os #[] hblk (hs1.trans hwz.out.symm)
              have HS1' : Hid (d1.size = z) := hs1
              have HG1 : Hid (dF d1 = g) := by
                unfold Hid
                rw [hf1, HG0.out, HGE.out]
              clear hw1 hs1 hf1 HK1
              have HP2 : Hid (PermF a mid g (dF d1)) := by
                unfold Hid
                rw [HG1.out]
                exact PermF.refl _ _ _
              have HR2' : Hid (Ris (clT T) a mid (dF d1)) := by
                unfold Hid
                rw [HG1.out]
                have hr := HRL.out
                exact HB1.out.sub (by omega) (Nat.le_refl _)
              have HE2 : Hid (∀ k, mid ≤ k → dF d1 k = g k) := fun k hk => HP2.out.2 k (Or.inr hk)
              have HK3 := hideO (HIH.out mid e b d1 w1 HBM.out.2.1 (by rw [HW1.out]; exact world_holds HH.out hblk (n + n1) d1 (os ++ #[]) (HS1'.out.trans HZ.out)) (by rw [HW1.out]; exact Nat.lt_of_lt_of_le hblk (world_size (n + n1) d1 (os ++ #[]))) (by have := HRL.out; omega) (by have := HRL.out; omega) (by rw [HS1'.out]; omega) (by rw [HS1'.out]; exact hsz) (HA2.out.congr (fun k h1 _ => HE2.out k h1)) (HB2.out.congr (fun k h1 _ => HE2.out k (by have := HRL.out; omega))) (fun u v h1 h2 h3 h4 => by rw [HE2.out u h1, HE2.out v (by omega)]; exact HS2.out u v h1 h2 h3 h4))
              rw [HS1'.out] at HK3
              go_wp2_with fail
              refine HK3.out.mono ?_
              rintro er w3 ⟨rfl, n3, d3, os3, hw3, hs3, hp3, hr3⟩
              have HW3 : Hid (w3 = sortWorldK (encT T) 2 w blk 0 ((n + n1) + n3) d3 ((os ++ #[]) ++ os3)) := by
                unfold Hid
                rw [hw3, HW1.out]
                exact world_world (n + n1) n3 d1 d3 (os ++ #[]) os3 hblk (hs3.trans HS1'.out.symm)
              have HS3' : Hid (d3.size = z) := hs3
              have HFIN := hideO (halves HX.out (Nat.le_of_lt HBM.out.2.2.1) (Nat.le_of_lt HBM.out.2.2.2) HP2.out hp3 HR2'.out hr3)
              clear hw3 hs3 hp3 hr3 HK3
              go_wp2_with fail
              refine bodyPost_end (v := .tuple #[]) (by simp [results, Tryz.results255, go_sem]) rfl ⟨rfl, ((n + n1) + n3), d3, ((os ++ #[]) ++ os3), HW3.out, HS3'.out, HPG.out.trans HFIN.out.1, HFIN.out.2⟩
            · have pim : (i : Int) < (m : Int) := by have := HRL.out; omega
              have him : decide ((i : Int) < (m : Int)) = true := decide_eq_true pim
              have pme : (m : Int) < (e : Int) := by have := HRL.out; omega
              have hme : decide ((m : Int) < (e : Int)) = true := decide_eq_true pme
              have pai : ¬ (a : Int) < (i : Int) := by have := HRL.out; omega
              have hai : decide ((a : Int) < (i : Int)) = false := decide_eq_false pai
              have pimid : (i : Int) < (mid : Int) := by have := HRL.out; omega
              have himid : decide ((i : Int) < (mid : Int)) = true := decide_eq_true pimid
              have pmide : (mid : Int) < (e : Int) := by have := HRL.out; omega
              have hmide : decide ((mid : Int) < (e : Int)) = true := decide_eq_true pmide
              have peb : ¬ (e : Int) < (b : Int) := by have := HRL.out; omega
              have heb : decide ((e : Int) < (b : Int)) = false := decide_eq_false peb
              obtain ⟨g, hg⟩ : ∃ g, g = rotF i m e f := ⟨_, rfl⟩
              have HGE := hideO hg
              have HPG : Hid (PermF a b f g) := by rw [hg]; exact HC.out.perm
              have HA1 : Hid (Ris (clT T) a i g) := by rw [hg]; exact HC.out.ris1 HR1.out
              have HB1 : Hid (Ris (clT T) i mid g) := by rw [hg]; exact HC.out.ris2 HR2.out
              have HA2 : Hid (Ris (clT T) mid e g) := by rw [hg]; exact HC.out.ris3 HR1.out
              have HB2 : Hid (Ris (clT T) e b g) := by rw [hg]; exact HC.out.ris4 HR2.out
              have HS1 : Hid (Sep a i mid g) := by rw [hg]; exact HC.out.sep1 HSP.out
              have HS2 : Hid (Sep mid e b g) := by rw [hg]; exact HC.out.sep2 HSP.out
              have HX : Hid (∀ u v, a ≤ u → u < mid → mid ≤ v → v < b → lx (clT T) (g u) (g v)) := by rw [hg]; exact HC.out.cross (clT_weak T) HR1.out HR2.out
              clear hg hwr
              have HK1 := hideO (rotate_T T blk cap i m e d wr (.func (.func 201) #[] #[]) (by rw [HW.out]; exact world_holds HH.out hblk n d os rfl) (by rw [HW.out]; exact Nat.lt_of_lt_of_le hblk (world_size n d os)) (by have := HRL.out; omega) (by have := HRL.out; omega) (by rw [hwz.out]; exact hez) (by rw [hwz.out]; exact hsz))
              rw [hwz.out] at HK1
              go_wp2_with fail
              refine HK1.out.mono ?_
              rintro er w1 ⟨rfl, n1, d1, hw1, hs1, hf1⟩
              have HW1 : Hid (w1 = sortWorldK (encT T) 2 w blk 0 (n + n1) d1 (os ++ #[])) := by
                unfold Hid
                rw [hw1, HW.out]
                exact world_world n n1 d d1 os #[] hblk (hs1.trans hwz.out.symm)
              have HS1' : Hid (d1.size = z) := hs1
              have HG1 : Hid (dF d1 = g) := by
                unfold Hid
                rw [hf1, HG0.out, HGE.out]
              clear hw1 hs1 hf1 HK1
              have HP2 : Hid (PermF a mid g (dF d1)) := by
                unfold Hid
                rw [HG1.out]
                exact PermF.refl _ _ _
              have HR2' : Hid (Ris (clT T) a mid (dF d1)) := by
                unfold Hid
                rw [HG1.out]
                have hr := HRL.out
                exact HB1.out.sub (by omega) (Nat.le_refl _)
              have HR3 : Hid (Ris (clT T) mid b (dF d1)) := by
                unfold Hid
                have hr := HRL.out
                refine Ris.congr (f := g) ?_ (fun k h1 _ => HP2.out.2 k (Or.inr h1))
                exact HA2.out.sub (Nat.le_refl _) (by omega)
              have HFIN := hideO (halves HX.out (Nat.le_of_lt HBM.out.2.2.1) (Nat.le_of_lt HBM.out.2.2.2) HP2.out (PermF.refl mid b (dF d1)) HR2'.out HR3.out)
              go_wp2_with fail
              refine bodyPost_end (v := .tuple #[]) (by simp [results, Tryz.results255, go_sem]) rfl ⟨rfl, (n + n1), d1, (os ++ #[]), HW1.out, HS1'.out, HPG.out.trans HFIN.out.1, HFIN.out.2⟩
          · by_cases k3 : e < b
            · exact absurd HRL.out (by have := HBM.out; omega)
            · exact absurd HRL.out (by have := HBM.out; omega)
        · by_cases k2 : i < m
          · by_cases k3 : e < b
            · exact absurd HRL.out (by have := HBM.out; omega)
            · exact absurd HRL.out (by have := HBM.out; omega)
          · by_cases k3 : e < b
            · exact absurd HRL.out (by have := HBM.out; omega)
            · exact absurd HRL.out (by have := HBM.out; omega)
end Go.Proofs.YtjdlgpnhkfdehaaGreatDoor.So


/- A merge in place at turns, in whole. -/
namespace Go.Proofs.YtjdlgpnhkfdehaaGreatDoor.So
open Go.RowKit Go.Sort Go.Proofs
theorem merge_T (T : Nat → ByteArray) (blk cap : Nat) : ∀ (N a m b : Nat) (d : Array Nat) (w : World), b - a ≤ N → HoldsK (encT T) 2 w blk 0 d → blk < w.heap.size → a < m → m < b → b ≤ d.size → d.size ≤ 1048576 → Ris (clT T) a m (dF d) → Ris (clT T) m b (dF d) → Sep a m b (dF d) →
    Calls Tryz.prog 255 #[.slice (some ⟨blk, 0, none⟩) d.size cap, .int .i64 a, .int .i64 m, .int .i64 b, .func (.func 201) #[] #[]] w fun e w' =>
      e = .returned (.tuple #[]) ∧ ∃ n d' os, w' = sortWorldK (encT T) 2 w blk 0 n d' os ∧ d'.size = d.size ∧ PermF a b (dF d) (dF d') ∧ Ris (clT T) a b (dF d') := by
  intro N
  induction N with
  | zero => intro a m b d w hN _ _ ham hmb; omega
  | succ N ih =>
    intro a m b d w hN hH hblk ham hmb hb hsz hr1 hr2 hsep
    by_cases hA : m = a + 1
    · subst hA
      exact mergeA_T T blk cap a b d w hH hblk hmb hb hsz hr2 hsep
    · by_cases hB : b = m + 1
      · subst hB
        exact mergeB_T T blk cap a m d w hH hblk (by omega) hb hsz hr1 hsep
      · by_cases hM : (a + b) / 2 < m
        · exact mergeH_T T blk cap a m b d w hH hblk (by omega) (by omega) hb hsz hr1 hr2 hsep hM (fun a' m' b' d' W h1 => ih a' m' b' d' W (by omega))
        · exact mergeL_T T blk cap a m b d w hH hblk (by omega) (by omega) hb hsz hr1 hr2 hsep (by omega) (fun a' m' b' d' W h1 => ih a' m' b' d' W (by omega))
end Go.Proofs.YtjdlgpnhkfdehaaGreatDoor.So

