/- Texts put together: SoMrgAT, SoMrgBT, SoSwapT, SoRotT. -/
import Derived.Test.YtjdlgpnhkfdehaaGreatDoorBu13
import Derived.Test.YtjdlgpnhkfdehaaGreatDoorSortPlain2
/- The walk of a merge in place at turns, whose first part is one turn. -/
namespace Go.Proofs.YtjdlgpnhkfdehaaGreatDoor.So
open Go.RowKit Go.Sort Go.Proofs
set_option maxRecDepth 100000 in
set_option maxHeartbeats 4000000 in
theorem mergeA_T (T : Nat → ByteArray) (blk cap a b : Nat) (d : Array Nat) (w : World) (hH : HoldsK (encT T) 2 w blk 0 d) (hblk : blk < w.heap.size) (hab : a + 1 < b) (hb : b ≤ d.size) (hsz : d.size ≤ 1048576)
    (hr2 : Ris (clT T) (a + 1) b (dF d)) (hsep : Sep a (a + 1) b (dF d)) :
    Calls Tryz.prog 255 #[.slice (some ⟨blk, 0, none⟩) d.size cap, .int .i64 a, .int .i64 (a + 1 : Nat), .int .i64 b, .func (.func 201) #[] #[]] w fun e w' =>
      e = .returned (.tuple #[]) ∧ ∃ n d' os, w' = sortWorldK (encT T) 2 w blk 0 n d' os ∧ d'.size = d.size ∧ PermF a b (dF d) (dF d') ∧ Ris (clT T) a b (dF d') := by
  have mixed := mixed
  have HST := hideO (world_self hH)
  have HH := hideO hH
  have HR2 := hideO hr2
  have HSP := hideO hsep
  clear hH hr2 hsep
  obtain ⟨z, hz⟩ : ∃ z, z = d.size := ⟨_, rfl⟩
  have HZ := hideO hz
  rw [← hz] at hb hsz ⊢
  clear hz
  obtain ⟨f, hf⟩ : ∃ f, f = dF d := ⟨_, rfl⟩
  have HFD := hideO hf
  rw [← hf] at HR2 HSP ⊢
  clear hf
  obtain ⟨m, hm⟩ : ∃ m, m = a + 1 := ⟨_, rfl⟩
  have hma : (m : Int) - (a : Int) = 1 := by omega
  have ham : a < m := by omega
  rw [← hm] at hab HR2 HSP ⊢
  have HM := hideO hm
  clear hm
  go_enter Tryz.func255, Tryz.ntmps255
  go_wp2_with fail
  clear hma
  go_loopw [10, 11] (fun u v wr => ∃ (i j n : Nat) (os : Array Obj), u = .int .i64 i ∧ v = .int .i64 j ∧ m ≤ i ∧ i ≤ j ∧ j ≤ b ∧ (m < i → lx (clT T) (f (i - 1)) (f a)) ∧ (j < b → lx (clT T) (f a) (f j)) ∧ wr = sortWorldK (encT T) 2 w blk 0 n d os) (fun u v _ => (intOf v).toNat - (intOf u).toNat)
  case atStart => exact ⟨m, b, 0, #[], rfl, rfl, Nat.le_refl _, by omega, Nat.le_refl _, fun h => absurd h (by omega), fun h => absurd h (by omega), HST.out⟩
  case round =>
    obtain ⟨i, j, n, os, rfl, rfl, hmi, hij, hjb, hlo, hhi, hwr⟩ := hrel
    have HLO := hideO hlo
    have HHI := hideO hhi
    have HW := hideO hwr
    clear hlo hhi
    by_cases hlt : i < j
    · obtain ⟨h, hh⟩ : ∃ h, h = (i + j) / 2 := ⟨_, rfl⟩
      have e1 : ((i : Int) + (j : Int)) / 2 = (h : Int) := by omega
      have hhb : h < z := by omega
      have hih : i ≤ h := by omega
      have hhj : h < j := by omega
      have hHj : HoldsK (encT T) 2 wr blk 0 d := by rw [hwr]; exact world_holds HH.out hblk n d os rfl
      have hbw : blk < wr.heap.size := by rw [hwr]; exact Nat.lt_of_lt_of_le hblk (world_size n d os)
      obtain ⟨x0c, x0f, x1c, x1f⟩ := cells_T hHj (i := h) (by have := HZ.out; omega)
      obtain ⟨y0c, y0f, y1c, y1f⟩ := cells_T hHj (i := a) (by have := HZ.out; omega)
      obtain ⟨x, hx⟩ : ∃ x, x = d[h]! := ⟨_, rfl⟩
      obtain ⟨y, hy⟩ : ∃ y, y = d[a]! := ⟨_, rfl⟩
      have HXY : Hid (x = f h ∧ y = f a) := ⟨by rw [hx, HFD.out]; rfl, by rw [hy, HFD.out]; rfl⟩
      rw [← hx] at x0c x1c
      rw [← hy] at y0c y1c
      have g0 := fun n' os' => cell_grown (a := ⟨blk, h * 2, none⟩) hbw x0c n' os'
      have g1 := fun n' os' => cell_grown (a := ⟨blk, h * 2 + 1, none⟩) hbw x1c n' os'
      have g2 := fun n' os' => cell_grown (a := ⟨blk, a * 2, none⟩) hbw y0c n' os'
      have g3 := fun n' os' => cell_grown (a := ⟨blk, a * 2 + 1, none⟩) hbw y1c n' os'
      have HCM : Hid (∀ W, Calls Tryz.prog 201 #[.agg #[.int .i64 x, .string (T x)], .agg #[.int .i64 y, .string (T y)]] W fun e w' => e = .returned (.int .i64 (cfT T x y)) ∧ ∃ q os', w' = grow (W.drewN q) os') := fun W => cmp_T T x y W
      have hneg := cfT_neg T x y
      obtain ⟨r, hr⟩ : ∃ r, r = cfT T x y := ⟨_, rfl⟩
      rw [← hr] at hneg HCM
      have hz1 : (h : Int) < (z : Int) := by omega
      have hz2 : (a : Int) < (z : Int) := by omega
      have HCLS := hideO (fun n' os' => sortWorldK_grown_c (encT T) 2 w blk 0 n n' d os os')
      rw [← hwr] at HCLS
      clear hr hx hy hwr hh x0c x0f x1c x1f y0c y0f y1c y1f hHj hbw
      cases hcb : clT T x y with
      | true =>
        rw [hcb] at hneg
        have hlv : r < 0 := of_decide_eq_true hneg
        have HL2 : Hid (lx (clT T) (f h) (f a)) := by
          unfold Hid
          rw [← HXY.out.1, ← HXY.out.2]
          exact lx_yes hcb
        clear hneg
        go_wp2_with fail
        go_quiet_grown (first | (go_at_call 201; refine Calls.grown_of (HCM.out _)))
        have HW2 : Hid (grow (wr.drewN nq) osq = sortWorldK (encT T) 2 w blk 0 (n + nq) d (os ++ osq)) := HCLS.out nq osq
        dsimp only
        clear g0 g1 g2 g3
        go_wp2_with fail
        go_roundw
        case rel => exact ⟨h + 1, j, n + nq, os ++ osq, by go_num, rfl, by omega, by omega, hjb, fun _ => HL2.out, HHI.out, HW2.out⟩
        case measure => simp [intOf]; omega
      | false =>
        rw [hcb] at hneg
        have hlv : ¬ r < 0 := of_decide_eq_false hneg
        have HL2 : Hid (lx (clT T) (f a) (f h)) := by
          unfold Hid
          have hpl := HSP.out a h (Nat.le_refl _) ham (by omega) (by omega)
          rw [← HXY.out.1, ← HXY.out.2] at hpl ⊢
          exact lx_no hcb hpl
        clear hneg
        go_wp2_with fail
        go_quiet_grown (first | (go_at_call 201; refine Calls.grown_of (HCM.out _)))
        have HW2 : Hid (grow (wr.drewN nq) osq = sortWorldK (encT T) 2 w blk 0 (n + nq) d (os ++ osq)) := HCLS.out nq osq
        dsimp only
        clear g0 g1 g2 g3
        go_wp2_with fail
        go_roundw
        case rel => exact ⟨i, h, n + nq, os ++ osq, rfl, rfl, hmi, by omega, by omega, HLO.out, fun _ => HL2.out, HW2.out⟩
        case measure => simp [intOf]; omega
    · obtain rfl : i = j := by omega
      have HRR : Hid (Ris (clT T) a b (rotF a m i f)) := by
        unfold Hid
        have hmm := HM.out
        rw [hmm] at HR2 ⊢
        exact up_ris (clT_weak T) HR2.out (by omega) (by omega)
          (fun k h1 h2 => HR2.out.le h1 (show k ≤ i - 1 by omega) (by omega) (clT_weak T) (HLO.out (by omega)))
          (fun k h1 h2 => HR2.out.ge (by omega) h1 h2 (clT_weak T) (HHI.out (by omega)))
      have HPP : Hid (PermF a b f (rotF a m i f)) := (rot_perm f (by omega) (by omega)).mono (Nat.le_refl _) (by omega) hjb
      clear hwr
      go_wp2_with fail
      go_loopw [13] (fun u wr2 => ∃ (k n : Nat) (dk : Array Nat) (os : Array Obj), u = .int .i64 k ∧ a ≤ k ∧ k + 1 ≤ i ∧ dk.size = z ∧ dF dk = rotF a m (k + 1) f ∧ wr2 = sortWorldK (encT T) 2 w blk 0 n dk os) (fun u _ => i - (intOf u).toNat)
      case atStart => exact ⟨a, n, d, os, rfl, Nat.le_refl _, by omega, HZ.out.symm, by rw [HM.out, rot_up0]; exact HFD.out.symm, HW.out⟩
      case round =>
        obtain ⟨k, n2, dk, os2, rfl, hak, hki, hsk, hfk, hwr⟩ := hrel
        have HSK := hideO hsk
        have HFK := hideO hfk
        obtain ⟨ip, hip⟩ : ∃ ip, i = ip + 1 := ⟨i - 1, by omega⟩
        have eip : (i : Int) - 1 = (ip : Int) := by omega
        have hipw : IntKind.i64.wrap (ip : Int) = (ip : Int) := by rw [IntKind.wrap_i64]; omega
        have HIP := hideO hip
        by_cases hlt2 : k + 1 < i
        · obtain ⟨q, hq⟩ : ∃ q, q = k + 1 := ⟨_, rfl⟩
          have eq1 : (k : Int) + 1 = (q : Int) := by omega
          have hH2 : HoldsK (encT T) 2 wr blk 0 dk := by rw [hwr]; exact world_holds HH.out hblk n2 dk os2 (hsk.trans HZ.out)
          obtain ⟨x0c, x0f, x1c, x1f⟩ := cells_T hH2 (i := k) (by omega)
          obtain ⟨y0c, y0f, y1c, y1f⟩ := cells_T hH2 (i := q) (by omega)
          obtain ⟨x, hx⟩ : ∃ x, x = dk[k]! := ⟨_, rfl⟩
          obtain ⟨y, hy⟩ : ∃ y, y = dk[q]! := ⟨_, rfl⟩
          have hsw := sortWorldK_swp_c (encT T) 2 w blk 0 (encT_len T) n2 dk os2 hblk k q (by omega) (by omega)
          rw [← hx, ← hy, ← hwr, Nat.zero_add, Nat.zero_add] at hsw
          rw [← hx] at x0c x1c
          rw [← hy] at y0c y1c
          have HSW := hideO hsw
          have hkz : (k : Int) < (z : Int) := by omega
          have hqz : (q : Int) < (z : Int) := by omega
          have hqw : IntKind.i64.wrap (q : Int) = (q : Int) := by rw [IntKind.wrap_i64]; omega
          have hkip : (k : Int) < (ip : Int) := by omega
          have hkq : k < q := by omega
          have HQ := hideO hq
          have HROT : Hid (So.swp (rotF a m (k + 1) f) k q = rotF a m (k + 2) f) := by
            unfold Hid
            rw [HM.out, hq]
            exact rot_up a k f hak
          clear hwr hH2 hx hy hsw hsk hfk hip hq
          go_wp2_with fail
          go_region
          all_goals (try go_wp2_with fail)
          all_goals go_roundw
          case rel =>
            refine ⟨q, n2 + 1, Go.Sort.swp dk k q, os2, rfl, by omega, by have := HQ.out; omega, by rw [Go.Sort.size_swp]; exact HSK.out, ?_, HSW.out⟩
            rw [dF_swp dk k q (by have := HSK.out; have := HQ.out; omega) (by have := HSK.out; have := HQ.out; omega), HFK.out, HROT.out, HQ.out]
          case measure => have := HQ.out; simp [intOf]; omega
        · have hkip : ¬ (k : Int) < (ip : Int) := by omega
          have HWW := hideO hwr
          have HE : Hid (dF dk = rotF a m i f) := by
            unfold Hid
            rw [hfk, show k + 1 = i by omega]
          clear hwr hsk hfk hip
          go_wp2_with fail
          refine bodyPost_ret (v := .tuple #[]) (by simp [results, Tryz.results255, go_sem]) rfl ⟨rfl, n2, dk, ⟨os2, HWW.out⟩, HSK.out, by rw [HE.out]; exact HPP.out, by rw [HE.out]; exact HRR.out⟩
end Go.Proofs.YtjdlgpnhkfdehaaGreatDoor.So


/- The walk of a merge in place at turns, whose second part is one turn. -/
namespace Go.Proofs.YtjdlgpnhkfdehaaGreatDoor.So
open Go.RowKit Go.Sort Go.Proofs
set_option maxRecDepth 100000 in
set_option maxHeartbeats 4000000 in
theorem mergeB_T (T : Nat → ByteArray) (blk cap a m : Nat) (d : Array Nat) (w : World) (hH : HoldsK (encT T) 2 w blk 0 d) (hblk : blk < w.heap.size) (ham : a + 1 < m) (hb : m + 1 ≤ d.size) (hsz : d.size ≤ 1048576)
    (hr1 : Ris (clT T) a m (dF d)) (hsep : Sep a m (m + 1) (dF d)) :
    Calls Tryz.prog 255 #[.slice (some ⟨blk, 0, none⟩) d.size cap, .int .i64 a, .int .i64 m, .int .i64 (m + 1 : Nat), .func (.func 201) #[] #[]] w fun e w' =>
      e = .returned (.tuple #[]) ∧ ∃ n d' os, w' = sortWorldK (encT T) 2 w blk 0 n d' os ∧ d'.size = d.size ∧ PermF a (m + 1) (dF d) (dF d') ∧ Ris (clT T) a (m + 1) (dF d') := by
  have mixed := mixed
  have HST := hideO (world_self hH)
  have HH := hideO hH
  have HR1 := hideO hr1
  have HSP := hideO hsep
  clear hH hr1 hsep
  obtain ⟨z, hz⟩ : ∃ z, z = d.size := ⟨_, rfl⟩
  have HZ := hideO hz
  rw [← hz] at hb hsz ⊢
  clear hz
  obtain ⟨f, hf⟩ : ∃ f, f = dF d := ⟨_, rfl⟩
  have HFD := hideO hf
  rw [← hf] at HR1 HSP ⊢
  clear hf
  obtain ⟨b, hm⟩ : ∃ b, b = m + 1 := ⟨_, rfl⟩
  have hbm : (b : Int) - (m : Int) = 1 := by omega
  have hma : ((m : Int) - (a : Int) == 1) = false := beq_eq_false_iff_ne.2 (by omega)
  rw [← hm] at hb HSP ⊢
  have HM := hideO hm
  have hmb : m < b := by omega
  clear hm
  go_enter Tryz.func255, Tryz.ntmps255
  go_wp2_with fail
  clear hbm hma
  go_loopw [14, 15] (fun u v wr => ∃ (i j n : Nat) (os : Array Obj), u = .int .i64 i ∧ v = .int .i64 j ∧ a ≤ i ∧ i ≤ j ∧ j ≤ m ∧ (a < i → lx (clT T) (f (i - 1)) (f m)) ∧ (j < m → lx (clT T) (f m) (f j)) ∧ wr = sortWorldK (encT T) 2 w blk 0 n d os) (fun u v _ => (intOf v).toNat - (intOf u).toNat)
  case atStart => exact ⟨a, m, 0, #[], rfl, rfl, Nat.le_refl _, by omega, Nat.le_refl _, fun h => absurd h (by omega), fun h => absurd h (by omega), HST.out⟩
  case round =>
    obtain ⟨i, j, n, os, rfl, rfl, hai, hij, hjm, hlo, hhi, hwr⟩ := hrel
    have HLO := hideO hlo
    have HHI := hideO hhi
    have HW := hideO hwr
    clear hlo hhi
    by_cases hlt : i < j
    · obtain ⟨h, hh⟩ : ∃ h, h = (i + j) / 2 := ⟨_, rfl⟩
      have e1 : ((i : Int) + (j : Int)) / 2 = (h : Int) := by omega
      have hhb : h < z := by omega
      have hih : i ≤ h := by omega
      have hhj : h < j := by omega
      have hHj : HoldsK (encT T) 2 wr blk 0 d := by rw [hwr]; exact world_holds HH.out hblk n d os rfl
      have hbw : blk < wr.heap.size := by rw [hwr]; exact Nat.lt_of_lt_of_le hblk (world_size n d os)
      obtain ⟨x0c, x0f, x1c, x1f⟩ := cells_T hHj (i := m) (by have := HZ.out; omega)
      obtain ⟨y0c, y0f, y1c, y1f⟩ := cells_T hHj (i := h) (by have := HZ.out; omega)
      obtain ⟨x, hx⟩ : ∃ x, x = d[m]! := ⟨_, rfl⟩
      obtain ⟨y, hy⟩ : ∃ y, y = d[h]! := ⟨_, rfl⟩
      have HXY : Hid (x = f m ∧ y = f h) := ⟨by rw [hx, HFD.out]; rfl, by rw [hy, HFD.out]; rfl⟩
      rw [← hx] at x0c x1c
      rw [← hy] at y0c y1c
      have g0 := fun n' os' => cell_grown (a := ⟨blk, m * 2, none⟩) hbw x0c n' os'
      have g1 := fun n' os' => cell_grown (a := ⟨blk, m * 2 + 1, none⟩) hbw x1c n' os'
      have g2 := fun n' os' => cell_grown (a := ⟨blk, h * 2, none⟩) hbw y0c n' os'
      have g3 := fun n' os' => cell_grown (a := ⟨blk, h * 2 + 1, none⟩) hbw y1c n' os'
      have HCM : Hid (∀ W, Calls Tryz.prog 201 #[.agg #[.int .i64 x, .string (T x)], .agg #[.int .i64 y, .string (T y)]] W fun e w' => e = .returned (.int .i64 (cfT T x y)) ∧ ∃ q os', w' = grow (W.drewN q) os') := fun W => cmp_T T x y W
      have hneg := cfT_neg T x y
      obtain ⟨r, hr⟩ : ∃ r, r = cfT T x y := ⟨_, rfl⟩
      rw [← hr] at hneg HCM
      have hz1 : (h : Int) < (z : Int) := by omega
      have hz2 : (m : Int) < (z : Int) := by omega
      have HCLS := hideO (fun n' os' => sortWorldK_grown_c (encT T) 2 w blk 0 n n' d os os')
      rw [← hwr] at HCLS
      clear hr hx hy hwr hh x0c x0f x1c x1f y0c y0f y1c y1f hHj hbw
      cases hcb : clT T x y with
      | false =>
        rw [hcb] at hneg
        have hlv : ¬ r < 0 := of_decide_eq_false hneg
        have hlv' : decide (r < 0) = false := hneg
        have HL2 : Hid (lx (clT T) (f h) (f m)) := by
          unfold Hid
          have hpl := HSP.out h m (by omega) (by omega) (Nat.le_refl _) hmb
          rw [← HXY.out.1, ← HXY.out.2] at hpl ⊢
          exact lx_no hcb hpl
        clear hneg
        go_wp2_with fail
        go_quiet_grown (first | (go_at_call 201; refine Calls.grown_of (HCM.out _)))
        have HW2 : Hid (grow (wr.drewN nq) osq = sortWorldK (encT T) 2 w blk 0 (n + nq) d (os ++ osq)) := HCLS.out nq osq
        dsimp only
        clear g0 g1 g2 g3
        go_wp2_with fail
        go_roundw
        case rel => exact ⟨h + 1, j, n + nq, os ++ osq, by go_num, rfl, by omega, by omega, hjm, fun _ => HL2.out, HHI.out, HW2.out⟩
        case measure => simp [intOf]; omega
      | true =>
        rw [hcb] at hneg
        have hlv : r < 0 := of_decide_eq_true hneg
        have hlv' : decide (r < 0) = true := hneg
        have HL2 : Hid (lx (clT T) (f m) (f h)) := by
          unfold Hid
          rw [← HXY.out.1, ← HXY.out.2]
          exact lx_yes hcb
        clear hneg
        go_wp2_with fail
        go_quiet_grown (first | (go_at_call 201; refine Calls.grown_of (HCM.out _)))
        have HW2 : Hid (grow (wr.drewN nq) osq = sortWorldK (encT T) 2 w blk 0 (n + nq) d (os ++ osq)) := HCLS.out nq osq
        dsimp only
        clear g0 g1 g2 g3
        go_wp2_with fail
        go_roundw
        case rel => exact ⟨i, h, n + nq, os ++ osq, rfl, rfl, hai, by omega, by omega, HLO.out, fun _ => HL2.out, HW2.out⟩
        case measure => simp [intOf]; omega
    · obtain rfl : i = j := by omega
      have HRR : Hid (Ris (clT T) a b (rotF i m b f)) := by
        unfold Hid
        have hmm := HM.out
        rw [hmm]
        exact down_ris (clT_weak T) HR1.out hai hjm
          (fun k h1 h2 => HR1.out.le h1 (show k ≤ i - 1 by omega) (by omega) (clT_weak T) (HLO.out (by omega)))
          (fun k h1 h2 => HR1.out.ge hai h1 h2 (clT_weak T) (HHI.out (by omega)))
      have HPP : Hid (PermF a b f (rotF i m b f)) := (rot_perm f hjm (by omega)).mono hai (by omega) (Nat.le_refl _)
      clear hwr
      go_wp2_with fail
      go_loopw [17] (fun u wr2 => ∃ (k n : Nat) (dk : Array Nat) (os : Array Obj), u = .int .i64 k ∧ i ≤ k ∧ k ≤ m ∧ dk.size = z ∧ dF dk = rotF k m b f ∧ wr2 = sortWorldK (encT T) 2 w blk 0 n dk os) (fun u _ => (intOf u).toNat)
      case atStart => exact ⟨m, n, d, os, rfl, hjm, Nat.le_refl _, HZ.out.symm, by rw [HM.out, rot_down0]; exact HFD.out.symm, HW.out⟩
      case round =>
        obtain ⟨k, n2, dk, os2, rfl, hik, hkm, hsk, hfk, hwr⟩ := hrel
        have HSK := hideO hsk
        have HFK := hideO hfk
        by_cases hlt2 : i < k
        · obtain ⟨q, hq⟩ : ∃ q, k = q + 1 := ⟨k - 1, by omega⟩
          have eq1 : (k : Int) - 1 = (q : Int) := by omega
          have hH2 : HoldsK (encT T) 2 wr blk 0 dk := by rw [hwr]; exact world_holds HH.out hblk n2 dk os2 (hsk.trans HZ.out)
          obtain ⟨x0c, x0f, x1c, x1f⟩ := cells_T hH2 (i := k) (by omega)
          obtain ⟨y0c, y0f, y1c, y1f⟩ := cells_T hH2 (i := q) (by omega)
          obtain ⟨x, hx⟩ : ∃ x, x = dk[k]! := ⟨_, rfl⟩
          obtain ⟨y, hy⟩ : ∃ y, y = dk[q]! := ⟨_, rfl⟩
          have hsw := sortWorldK_swp_c (encT T) 2 w blk 0 (encT_len T) n2 dk os2 hblk k q (by omega) (by omega)
          rw [← hx, ← hy, ← hwr, Nat.zero_add, Nat.zero_add] at hsw
          rw [← hx] at x0c x1c
          rw [← hy] at y0c y1c
          have HSW := hideO hsw
          have hkz : (k : Int) < (z : Int) := by omega
          have hqz : (q : Int) < (z : Int) := by omega
          have hqw : IntKind.i64.wrap (q : Int) = (q : Int) := by rw [IntKind.wrap_i64]; omega
          have hik2 : (i : Int) < (k : Int) := by omega
          have hqk : q < k := by omega
          have HQ := hideO hq
          have HROT : Hid (So.swp (rotF k m b f) k q = rotF q m b f) := by
            unfold Hid
            rw [HM.out, hq]
            exact rot_down q m f (by omega)
          clear hwr hH2 hx hy hsw hsk hfk hq
          go_wp2_with fail
          go_region
          all_goals (try go_wp2_with fail)
          all_goals go_roundw
          case rel =>
            refine ⟨q, n2 + 1, Go.Sort.swp dk k q, os2, rfl, by have := HQ.out; omega, by omega, by rw [Go.Sort.size_swp]; exact HSK.out, ?_, HSW.out⟩
            rw [dF_swp dk k q (by have := HSK.out; omega) (by have := HSK.out; omega), HFK.out, HROT.out]
          case measure => simp [intOf]; omega
        · have hik2 : ¬ (i : Int) < (k : Int) := by omega
          have HWW := hideO hwr
          have HE : Hid (dF dk = rotF i m b f) := by
            unfold Hid
            rw [hfk, show k = i by omega]
          clear hwr hsk hfk
          go_wp2_with fail
          refine bodyPost_ret (v := .tuple #[]) (by simp [results, Tryz.results255, go_sem]) rfl ⟨rfl, n2, dk, ⟨os2, HWW.out⟩, HSK.out, by rw [HE.out]; exact HPP.out, by rw [HE.out]; exact HRR.out⟩
end Go.Proofs.YtjdlgpnhkfdehaaGreatDoor.So


/- The walks of a stable sort's helpers at turns: two rows that change places, and two parts that are turned round. -/
namespace Go.Proofs.YtjdlgpnhkfdehaaGreatDoor.So
open Go.RowKit Go.Sort Go.Proofs
set_option maxRecDepth 100000 in
set_option maxHeartbeats 2000000 in
theorem swapRange_T (T : Nat → ByteArray) (blk cap a b n : Nat) (d : Array Nat) (w : World) (cv : Value) (hH : HoldsK (encT T) 2 w blk 0 d) (hblk : blk < w.heap.size) (hab : a + n ≤ b) (hb : b + n ≤ d.size) (hsz : d.size ≤ 1048576) :
    Calls Tryz.prog 265 #[.slice (some ⟨blk, 0, none⟩) d.size cap, .int .i64 a, .int .i64 b, .int .i64 n, cv] w fun e w' =>
      e = .returned (.tuple #[]) ∧ ∃ m d', w' = sortWorldK (encT T) 2 w blk 0 m d' #[] ∧ d'.size = d.size ∧ dF d' = swpR a b n (dF d) := by
  have HST := hideO (world_self hH)
  have HH := hideO hH
  clear hH
  obtain ⟨z, hz⟩ : ∃ z, z = d.size := ⟨_, rfl⟩
  have HZ := hideO hz
  rw [← hz] at hb hsz ⊢
  clear hz
  go_enter Tryz.func265, Tryz.ntmps265
  go_wp2_with fail
  go_loopw [10] (fun i wr => ∃ (k m : Nat) (dk : Array Nat), i = .int .i64 k ∧ k ≤ n ∧ dk.size = z ∧ dF dk = swpR a b k (dF d) ∧ wr = sortWorldK (encT T) 2 w blk 0 m dk #[]) (fun i _ => n - (intOf i).toNat)
  case atStart => exact ⟨0, 0, d, rfl, Nat.zero_le _, HZ.out.symm, (swpR_zero a b (dF d)).symm, HST.out⟩
  case round =>
    obtain ⟨k, m, dk, rfl, hk, hsk, hfk, hwr⟩ := hrel
    have HF := hideO hfk
    have HSK := hideO hsk
    have HHk := hideO (world_holds HH.out hblk (m + 1) dk #[] (by rw [hsk, HZ.out]))
    have HW := hideO hwr
    have hdr : wr.drew = sortWorldK (encT T) 2 w blk 0 (m + 1) dk #[] := by rw [hwr]; rfl
    have HDR := hideO hdr
    clear hfk hwr
    by_cases hlt : k < n
    · obtain ⟨p, hp⟩ : ∃ p, p = a + k := ⟨_, rfl⟩
      obtain ⟨q, hq⟩ : ∃ q, q = b + k := ⟨_, rfl⟩
      have ep : (a : Int) + (k : Int) = (p : Int) := by omega
      have eq : (b : Int) + (k : Int) = (q : Int) := by omega
      have hpz : p < z := by omega
      have hqz : q < z := by omega
      have hpq : p < q := by omega
      have HPQ : Hid (p = a + k ∧ q = b + k) := ⟨hp, hq⟩
      obtain ⟨x, hx⟩ : ∃ x, x = dk[p]! := ⟨_, rfl⟩
      obtain ⟨y, hy⟩ : ∃ y, y = dk[q]! := ⟨_, rfl⟩
      have hd : wr.drew = sortWorldK (encT T) 2 w blk 0 (m + 1) dk #[] := hdr
      have hHd : HoldsK (encT T) 2 wr blk 0 dk := by
        have : HoldsK (encT T) 2 wr.drew blk 0 dk := by rw [hd]; exact HHk.out
        exact this
      have hsw : ((wr.drew.setCells blk (0 + p * 2) (encT T y)).setCells blk (0 + q * 2) (encT T x)) = sortWorldK (encT T) 2 w blk 0 (m + 1) (Go.Sort.swp dk p q) #[] := by
        rw [HW.out, hx, hy]
        exact sortWorldK_swp_c (encT T) 2 w blk 0 (encT_len T) m dk #[] hblk p q (by omega) (by omega)
      rw [Nat.zero_add, Nat.zero_add] at hsw
      obtain ⟨x0c, x0f, x1c, x1f⟩ := cells_T hHd (i := p) (by omega)
      obtain ⟨y0c, y0f, y1c, y1f⟩ := cells_T hHd (i := q) (by omega)
      rw [← hx] at x0c x1c
      rw [← hy] at y0c y1c
      have hpw : IntKind.i64.wrap (p : Int) = (p : Int) := by rw [IntKind.wrap_i64]; omega
      have hqw : IntKind.i64.wrap (q : Int) = (q : Int) := by rw [IntKind.wrap_i64]; omega
      have hpz' : (p : Int) < (z : Int) := by omega
      have hqz' : (q : Int) < (z : Int) := by omega
      have HSW := hideO hsw
      have HXY : Hid (x = dk[p]! ∧ y = dk[q]!) := ⟨hx, hy⟩
      have HNX : Hid (So.swp (swpR a b k (dF d)) p q = swpR a b (k + 1) (dF d)) := by
        unfold Hid
        rw [hp, hq]
        exact swpR_next a b k (dF d) (by omega)
      clear hd hdr hx hy hp hq hsk hHd hsw
      go_wp2_with fail
      go_region
      all_goals (try go_wp2_with fail)
      all_goals go_roundw
      case rel =>
        refine ⟨k + 1, m + 1, Go.Sort.swp dk p q, by go_num, by omega, by rw [Go.Sort.size_swp]; exact HSK.out, ?_, HSW.out⟩
        rw [dF_swp dk p q (by have := HSK.out; omega) (by have := HSK.out; omega), HF.out]
        exact HNX.out
      case measure => simp [intOf]; omega
    · obtain rfl : k = n := by omega
      clear hdr hsk
      go_wp2_with fail
      refine bodyPost_end (v := .tuple #[]) (by simp [results, Tryz.results265, go_sem]) rfl ⟨rfl, m, dk, HW.out, HSK.out, HF.out⟩
end Go.Proofs.YtjdlgpnhkfdehaaGreatDoor.So


/- The walk of a stable sort's rotation at turns. -/
namespace Go.Proofs.YtjdlgpnhkfdehaaGreatDoor.So
open Go.RowKit Go.Sort Go.Proofs
set_option maxRecDepth 100000 in
set_option maxHeartbeats 600000 in
theorem rotate_T (T : Nat → ByteArray) (blk cap a m b : Nat) (d : Array Nat) (w : World) (cv : Value) (hH : HoldsK (encT T) 2 w blk 0 d) (hblk : blk < w.heap.size) (ham : a < m) (hmb : m < b) (hb : b ≤ d.size) (hsz : d.size ≤ 1048576) :
    Calls Tryz.prog 261 #[.slice (some ⟨blk, 0, none⟩) d.size cap, .int .i64 a, .int .i64 m, .int .i64 b, cv] w fun e w' =>
      e = .returned (.tuple #[]) ∧ ∃ n d', w' = sortWorldK (encT T) 2 w blk 0 n d' #[] ∧ d'.size = d.size ∧ dF d' = rotF a m b (dF d) := by
  have HST := hideO (world_self hH)
  have HH := hideO hH
  clear hH
  obtain ⟨z, hz⟩ : ∃ z, z = d.size := ⟨_, rfl⟩
  have HZ := hideO hz
  rw [← hz] at hb hsz ⊢
  clear hz
  have HC := hideO (fun (n : Nat) (dk : Array Nat) (hs : dk.size = z) (p q l : Nat) (h1 : p + l ≤ q) (h2 : q + l ≤ z) =>
    swapRange_T T blk cap p q l dk (sortWorldK (encT T) 2 w blk 0 n dk #[]) cv (world_holds HH.out hblk n dk #[] (hs.trans HZ.out)) (Nat.lt_of_lt_of_le hblk (world_size n dk #[])) h1 (by rw [hs]; exact h2) (by rw [hs]; exact hsz))
  have HWW := hideO (fun (n n' : Nat) (dk d' : Array Nat) (hs : d'.size = dk.size) => world_world (enc := encT T) (k := 2) (w := w) (blk := blk) (off := 0) n n' dk d' #[] #[] hblk hs)
  obtain ⟨i0, hi0⟩ : ∃ i0, i0 = m - a := ⟨_, rfl⟩
  obtain ⟨j0, hj0⟩ : ∃ j0, j0 = b - m := ⟨_, rfl⟩
  have h1 : ((m : Int) - (a : Int)) = (i0 : Int) := by omega
  have h2 : ((b : Int) - (m : Int)) = (j0 : Int) := by omega
  have HIJ : Hid (i0 = m - a ∧ j0 = b - m) := ⟨hi0, hj0⟩
  clear hi0 hj0
  go_enter Tryz.func261, Tryz.ntmps261
  go_wp2_with fail
  clear h1 h2
  go_loopw [10, 11] (fun u v wr => ∃ (i j n : Nat) (dk : Array Nat), u = .int .i64 i ∧ v = .int .i64 j ∧ 0 < i ∧ 0 < j ∧ i ≤ m - a ∧ j ≤ b - m ∧ dk.size = z ∧ rotF (m - i) m (m + j) (dF dk) = rotF a m b (dF d) ∧ wr = sortWorldK (encT T) 2 w blk 0 n dk #[]) (fun u v _ => (intOf u).toNat + (intOf v).toNat)
  case atStart =>
    have hij := HIJ.out
    exact ⟨i0, j0, 0, d, rfl, rfl, by omega, by omega, by omega, by omega, HZ.out.symm, by rw [hij.1, hij.2, show m - (m - a) = a by omega, show m + (b - m) = b by omega], HST.out⟩
  case round =>
    obtain ⟨i, j, n, dk, rfl, rfl, hi, hj, hia, hjb, hsk, hrot, hwr⟩ := hrel
    have HR := hideO hrot
    have HSK := hideO hsk
    have HW := hideO hwr
    have HCk := hideO (fun p q l h1 h2 => HC.out n dk hsk p q l h1 h2)
    rw [← hwr, hsk] at HCk
    obtain ⟨p, hp⟩ : ∃ p, p = m - i := ⟨_, rfl⟩
    have e1 : (m : Int) - (i : Int) = (p : Int) := by omega
    rw [← hp] at HR
    have HP := hideO hp
    clear hrot hsk hwr hp
    by_cases hij : i = j
    · subst hij
      have hne : ((i : Int) != (i : Int)) = false := by simp
      have HCC := hideO (HCk.out p m i (by have := HP.out; omega) (by omega))
      go_wp2_with fail
      refine HCC.out.mono ?_
      rintro e w' ⟨rfl, n', d', hw', hs', hf'⟩
      have HX : Hid (w' = sortWorldK (encT T) 2 w blk 0 (n + n') d' #[]) := by
        unfold Hid
        rw [hw', HW.out, HWW.out n n' dk d' (hs'.trans HSK.out.symm)]
        rfl
      have HF : Hid (dF d' = rotF a m b (dF d)) := by
        unfold Hid
        rw [hf', HP.out, rot_even m i (dF dk) (by omega), ← HR.out, HP.out]
      have HS' := hideO hs'
      clear hw' hs' hf'
      go_wp2_with fail
      refine bodyPost_end (v := .tuple #[]) (by simp [results, Tryz.results261, go_sem]) rfl ⟨rfl, n + n', d', HX.out, HS'.out, HF.out⟩
    · have hne : ((i : Int) != (j : Int)) = true := by simp; omega
      have HNE := hideO hij
      clear hij
      by_cases hlt : j < i
      · have hlt' : (j : Int) < (i : Int) := by omega
        obtain ⟨r, hr⟩ : ∃ r, r = i - j := ⟨_, rfl⟩
        have e2 : (i : Int) - (j : Int) = (r : Int) := by omega
        have HRR := hideO hr
        clear hr
        have HCC := hideO (HCk.out p m j (by have := HP.out; omega) (by omega))
        go_wp2_with fail
        refine HCC.out.mono ?_
        rintro e w' ⟨rfl, n', d', hw', hs', hf'⟩
        have HX : Hid (w' = sortWorldK (encT T) 2 w blk 0 (n + n') d' #[]) := by
          unfold Hid
          rw [hw', HW.out, HWW.out n n' dk d' (hs'.trans HSK.out.symm)]
          rfl
        have HF : Hid (rotF (m - r) m (m + j) (dF d') = rotF a m b (dF d)) := by
          unfold Hid
          rw [hf', HRR.out, HP.out, rot_long m i j (dF dk) hlt (by omega), ← HR.out, HP.out]
        have HS' := hideO hs'
        clear hw' hs' hf'
        go_wp2_with fail
        go_roundw
        case rel => exact ⟨r, j, n + n', d', rfl, rfl, by have := HRR.out; omega, hj, by have := HRR.out; omega, hjb, HS'.out, HF.out, HX.out⟩
        case measure => have := HRR.out; simp [intOf]; omega
      · have hlt' : ¬ (j : Int) < (i : Int) := by omega
        obtain ⟨r, hr⟩ : ∃ r, r = j - i := ⟨_, rfl⟩
        have e2 : (j : Int) - (i : Int) = (r : Int) := by omega
        have HRR := hideO hr
        obtain ⟨q, hq⟩ : ∃ q, q = m + j - i := ⟨_, rfl⟩
        have e3 : (m : Int) + (j : Int) - (i : Int) = (q : Int) := by omega
        have HQ := hideO hq
        clear hr hq
        have HCC := hideO (HCk.out p q i (by have := HP.out; have := HQ.out; omega) (by have := HQ.out; omega))
        go_wp2_with fail
        refine HCC.out.mono ?_
        rintro e w' ⟨rfl, n', d', hw', hs', hf'⟩
        have HX : Hid (w' = sortWorldK (encT T) 2 w blk 0 (n + n') d' #[]) := by
          unfold Hid
          rw [hw', HW.out, HWW.out n n' dk d' (hs'.trans HSK.out.symm)]
          rfl
        have HF : Hid (rotF (m - i) m (m + r) (dF d') = rotF a m b (dF d)) := by
          unfold Hid
          rw [hf', HRR.out, HP.out, HQ.out, rot_short m i j (dF dk) (by have := HNE.out; omega) (by omega), ← HR.out, HP.out]
        have HS' := hideO hs'
        clear hw' hs' hf'
        go_wp2_with fail
        go_roundw
        case rel => exact ⟨i, r, n + n', d', rfl, rfl, hi, by have := HRR.out; have := HNE.out; omega, hia, by have := HRR.out; omega, HS'.out, HF.out, HX.out⟩
        case measure => have := HRR.out; simp [intOf]; omega
end Go.Proofs.YtjdlgpnhkfdehaaGreatDoor.So

