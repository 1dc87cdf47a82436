/- Texts put together: SoInsI, SoMrgAI. -/
import Derived.Test.YtmkpakhpjgocjaaFs6
import Derived.Test.YtmkpakhpjgocjaaSortPlain2
/- The walk of a stable sort's insertion at places. -/
namespace Go.Proofs.Ytmkpakhpjgocjaa.So
open Go.RowKit Go.Sort Go.Proofs

set_option maxRecDepth 100000 in
set_option maxHeartbeats 2000000 in
theorem insertion_I (T : ByteArray) (cc : Nat) (blk cap a b : Nat) (d : Array Nat) (w : World) (hH : HoldsK encI 1 w blk 0 d) (hblk : blk < w.heap.size) (hab : a ≤ b) (hb : b ≤ d.size) (hsz : d.size ≤ 1048576) (hcap : Cap w cc T) (hcb0 : cc ≠ blk) (hbd : ∀ i, dF d i < T.size)
    (hrise : ∀ i j, a ≤ i → i < j → j < b → dF d i < dF d j) :
    Calls Try.prog 174 #[.slice (some ⟨blk, 0, none⟩) d.size cap, .int .i64 a, .int .i64 b, .func (.func 157) #[] #[.pointer (some ⟨cc, 0, none⟩)]] w fun e w' =>
      e = .returned (.tuple #[]) ∧ ∃ n d' os, w' = sortWorldK encI 1 w blk 0 n d' os ∧ d'.size = d.size ∧ PermF a b (dF d) (dF d') ∧ Ris (clI T) a b (dF d') := by
  have mixed := mixed
  have HST := hideO (world_self hH)
  have HH := hideO hH
  have HCP : Hid (∀ (m : Nat) (dk : Array Nat) (os : Array Obj), Cap (sortWorldK encI 1 w blk 0 m dk os) cc T) := fun m dk os => hcap.block (world_block m dk os hcap.lt hcb0)
  have HBD := hideO hbd
  clear hcap hcb0 hbd
  have HRI := hideO hrise
  clear hH hrise
  obtain ⟨z, hz⟩ : ∃ z, z = d.size := ⟨_, rfl⟩
  have HZ := hideO hz
  rw [← hz] at hb hsz ⊢
  clear hz
  by_cases hE : a = b
  · subst hE
    go_enter Try.func174, Try.ntmps174
    go_wp2_with fail
    go_loopw [8] (fun i wr => i = .int .i64 ((a : Int) + 1) ∧ wr = w) (fun _ _ => 0)
    case atStart => exact ⟨by go_num, rfl⟩
    case round =>
      obtain ⟨rfl, rfl⟩ := hrel
      go_wp2_with fail
      refine bodyPost_end (v := .tuple #[]) (by simp [results, Try.results174, go_sem]) rfl ⟨rfl, 0, d, #[], HST.out, HZ.out.symm, PermF.refl _ _ _, fun i j h1 h2 h3 => absurd h3 (by omega)⟩
  · have hlt0 : a < b := by omega
    clear hE hab
    go_enter Try.func174, Try.ntmps174
    go_wp2_with fail
    go_loopw [8] (fun vi wr => ∃ (i n : Nat) (dk : Array Nat) (os : Array Obj), vi = .int .i64 i ∧ a < i ∧ i ≤ b ∧ dk.size = z ∧ PermF a i (dF d) (dF dk) ∧ Ris (clI T) a i (dF dk) ∧ wr = sortWorldK encI 1 w blk 0 n dk os) (fun vi _ => b - (intOf vi).toNat)
    case atStart => exact ⟨a + 1, 0, d, #[], by go_num, by omega, by omega, HZ.out.symm, PermF.refl _ _ _, fun i j h1 h2 h3 => absurd h3 (by omega), HST.out⟩
    case round =>
      obtain ⟨i, n, dk, os, rfl, hai, hib, hsk, hperm, hris, hwr⟩ := hrel
      have HSK := hideO hsk
      have HPM := hideO hperm
      have HRS := hideO hris
      have HW := hideO hwr
      clear hsk hperm hris hwr
      by_cases hlt : i < b
      · obtain ⟨f, hf⟩ : ∃ f, f = dF dk := ⟨_, rfl⟩
        rw [← hf] at HPM HRS
        have HFD := hideO hf
        have HBF : Hid (∀ i, f i < T.size) := HPM.out.bd HBD.out
        have HPL : Hid (∀ k, a ≤ k → k < i → f k < f i) := fun k h1 h2 => by
          have e : f i = dF d i := HPM.out.2 i (Or.inr (Nat.le_refl _))
          rw [e]
          exact HPM.out.all (p := fun v => v < dF d i) (fun j h3 h4 => HRI.out j i h3 h4 hlt) k h1 h2
        clear hf
        go_wp2_with fail
        go_loopw [9] (fun vj wr2 => ∃ (j m : Nat) (dj : Array Nat) (oj : Array Obj), vj = .int .i64 j ∧ a ≤ j ∧ j ≤ i ∧ dj.size = z ∧ dF dj = rotF j i (i + 1) f ∧ (∀ k, j ≤ k → k < i → clI T (f i) (f k) = true) ∧ wr2 = sortWorldK encI 1 w blk 0 m dj oj) (fun vj _ => (intOf vj).toNat)
        case atStart => exact ⟨i, n, dk, os, rfl, by omega, Nat.le_refl _, HSK.out, by rw [rot_down0]; exact HFD.out.symm, fun k h1 h2 => absurd h2 (by omega), HW.out⟩
        case round =>
          obtain ⟨j, m, dj, oj, rfl, haj, hji, hsj, hfj, hcl, hwr⟩ := hrel
          have HSJ := hideO hsj
          have HFJ := hideO hfj
          have HCL := hideO hcl
          have HWJ := hideO hwr
          -- the end of the inner loop
          have OUT : Hid ((∀ k, a ≤ k → k < j → lx (clI T) (f k) (f i)) → PermF a (i + 1) (dF d) (dF dj) ∧ Ris (clI T) a (i + 1) (dF dj)) := fun hlo => by
            rw [HFJ.out]
            refine ⟨?_, ?_⟩
            · have h1 := HPM.out.mono (Nat.le_refl a) (Nat.le_of_lt hai) (Nat.le_succ i)
              exact h1.trans ((rot_perm f hji (Nat.le_succ i)).mono haj (by omega) (Nat.le_refl _))
            · exact down_ris (clI_weak T) HRS.out haj hji hlo (fun k h1 h2 => lx_yes (HCL.out k h1 h2))
          clear hsj hfj hcl
          by_cases hja : a < j
          · obtain ⟨jp, hjp⟩ : ∃ jp, j = jp + 1 := ⟨j - 1, by omega⟩
            have HJP := hideO hjp
            have hHj : HoldsK encI 1 wr blk 0 dj := by rw [hwr]; exact world_holds HH.out hblk m dj oj (HSJ.out.trans HZ.out)
            have hbw : blk < wr.heap.size := by rw [hwr]; exact Nat.lt_of_lt_of_le hblk (world_size m dj oj)
            obtain ⟨x0c, x0f⟩ := cells_I hHj (i := j) (by have := HSJ.out; omega)
            obtain ⟨y0c, y0f⟩ := cells_I hHj (i := jp) (by have := HSJ.out; omega)
            have ex : dj[j]! = f i := by
              have : dF dj j = f i := by
                rw [HFJ.out, rot_first f j (Nat.le_refl _) (by omega)]
                congr 1
                omega
              exact this
            have ey : dj[jp]! = f jp := by
              have : dF dj jp = f jp := by rw [HFJ.out, rot_out f jp (Or.inl (by omega)) hji (Nat.le_succ i)]
              exact this
            rw [ex] at x0c
            rw [ey] at y0c
            obtain ⟨x, hx⟩ : ∃ x, x = f i := ⟨_, rfl⟩
            obtain ⟨y, hy⟩ : ∃ y, y = f jp := ⟨_, rfl⟩
            have HXY : Hid (x = f i ∧ y = f jp) := ⟨hx, hy⟩
            rw [← hx] at x0c
            rw [← hy] at y0c
            have g0 := fun n' os' => cell_grown (a := ⟨blk, j, none⟩) hbw x0c n' os'
            have g2 := fun n' os' => cell_grown (a := ⟨blk, jp, none⟩) hbw y0c n' os'
            have hcc : wr.cell? ⟨cc, 0, none⟩ = some (.string T) := by rw [hwr]; exact HCP.out _ _ _
            have hcw : cc < wr.heap.size := Cap.lt hcc
            have gc := fun n' os' => cell_grown (a := ⟨cc, 0, none⟩) hcw hcc n' os'
            clear hcc hcw
            have HCM : Hid (∀ W, Cap W cc T → Calls Try.prog 157 #[.int .i64 x, .int .i64 y, .pointer (some ⟨cc, 0, none⟩)] W fun e w' => e = .returned (.int .i64 (cfI T x y)) ∧ ∃ q os', w' = grow (W.drewN q) os') := fun W hW => cmp_I T cc x y W hW (by rw [HXY.out.1]; exact HBF.out _) (by rw [HXY.out.2]; exact HBF.out _)
            have hneg := cfI_neg T x y
            obtain ⟨r, hr⟩ : ∃ r, r = cfI T x y := ⟨_, rfl⟩
            rw [← hr] at hneg HCM
            have e1 : (j : Int) - 1 = (jp : Int) := by omega
            have hwp : IntKind.i64.wrap (jp : Int) = (jp : Int) := by rw [IntKind.wrap_i64]; omega
            have jz : (j : Int) < (z : Int) := by omega
            have jz1 : (jp : Int) < (z : Int) := by omega
            have hjaz : (a : Int) < (j : Int) := by omega
            have hjad : decide ((a : Int) < (j : Int)) = true := decide_eq_true hjaz
            have HCLS := hideO (fun n' os' => sortWorldK_grown_c encI 1 w blk 0 m n' dj oj os')
            rw [← hwr] at HCLS
            clear hr ex ey hx hy hjp hwr
            cases hcb : clI T x y with
            | true =>
              rw [hcb] at hneg
              have hlv : r < 0 := of_decide_eq_true hneg
              clear hneg
              go_wp2_with fail
              go_quiet_grown (first | (go_at_call 157; refine Calls.grown_of (HCM.out _ (gc _ _))))
              have hW2 : grow (wr.drewN nq) osq = sortWorldK encI 1 w blk 0 (m + nq) dj (oj ++ osq) := HCLS.out nq osq
              dsimp only
              clear g0 g2 gc x0c x0f y0c y0f hHj hbw
              generalize grow (wr.drewN nq) osq = W2 at hW2 ⊢
              have hH2 : HoldsK encI 1 W2 blk 0 dj := by rw [hW2]; exact world_holds HH.out hblk (m + nq) dj (oj ++ osq) (HSJ.out.trans HZ.out)
              obtain ⟨x0c, x0f⟩ := cells_I hH2 (i := j) (by have := HSJ.out; omega)
              obtain ⟨y0c, y0f⟩ := cells_I hH2 (i := jp) (by have := HSJ.out; omega)
              have ex : dj[j]! = x := by
                have : dF dj j = x := by
                  rw [HXY.out.1, HFJ.out, rot_first f j (Nat.le_refl _) (by omega)]
                  congr 1
                  omega
                exact this
              have ey : dj[jp]! = y := by
                have : dF dj jp = y := by rw [HXY.out.2, HFJ.out, rot_out f jp (Or.inl (by have := HJP.out; omega)) hji (Nat.le_succ i)]
                exact this
              have hsw := sortWorldK_swp_c encI 1 w blk 0 encI_len (m + nq) dj (oj ++ osq) hblk j jp (by have := HSJ.out; omega) (by have := HSJ.out; omega)
              rw [ex, ey, ← hW2, Nat.zero_add, Nat.zero_add, Nat.mul_one, Nat.mul_one] at hsw
              rw [ex] at x0c
              rw [ey] at y0c
              have HSW := hideO hsw
              have hjne : jp < j := by have := HJP.out; omega
              have HROT : Hid (So.swp (rotF j i (i + 1) f) j jp = rotF jp i (i + 1) f) := by
                unfold Hid
                rw [HJP.out]
                exact rot_down jp i f (by have := HJP.out; omega)
              clear hW2 hH2 ex ey hsw
              go_wp2_with fail
              go_region
              all_goals (try go_wp2_with fail)
              all_goals go_roundw
              case rel =>
                refine ⟨jp, m + nq + 1, Go.Sort.swp dj j jp, oj ++ osq, rfl, by have := HJP.out; omega, by omega, by rw [Go.Sort.size_swp]; exact HSJ.out, ?_, fun k h1 h2 => ?_, HSW.out⟩
                · rw [dF_swp dj j jp (by have := HSJ.out; omega) (by have := HSJ.out; omega), HFJ.out]
                  exact HROT.out
                · rcases Nat.eq_or_lt_of_le h1 with e | e
                  · rw [← e, ← HXY.out.1, ← HXY.out.2]
                    exact hcb
                  · exact HCL.out k (by have := HJP.out; omega) h2
              case measure => have := HJP.out; simp [intOf]; omega
            | false =>
              rw [hcb] at hneg
              have hlv : ¬ r < 0 := of_decide_eq_false hneg
              have HO := hideO (OUT.out (fun k h1 h2 => by
                have hjx : lx (clI T) (f jp) (f i) := by
                  rw [← HXY.out.1, ← HXY.out.2]
                  refine lx_no hcb ?_
                  rw [HXY.out.1, HXY.out.2]
                  exact HPL.out jp (by have := HJP.out; omega) (by have := HJP.out; omega)
                exact HRS.out.le h1 (show k ≤ jp by have := HJP.out; omega) (by have := HJP.out; omega) (clI_weak T) hjx))
              clear hneg
              go_wp2_with fail
              go_quiet_grown (first | (go_at_call 157; refine Calls.grown_of (HCM.out _ (gc _ _))))
              have HW2 : Hid (grow (wr.drewN nq) osq = sortWorldK encI 1 w blk 0 (m + nq) dj (oj ++ osq)) := HCLS.out nq osq
              dsimp only
              clear g0 g2 gc x0c x0f y0c y0f hHj hbw
              go_wp2_with fail
              go_roundw
              case rel => exact ⟨i + 1, m + nq, dj, oj ++ osq, by go_num, by omega, by omega, HSJ.out, HO.out.1, HO.out.2, HW2.out⟩
              case measure => simp [intOf]; omega
          · have hjad : decide ((a : Int) < (j : Int)) = false := decide_eq_false (by omega)
            have hjaz : ¬ (a : Int) < (j : Int) := by omega
            have HO := hideO (OUT.out (fun k h1 h2 => absurd h2 (by omega)))
            have HDR : Hid (wr.drew = sortWorldK encI 1 w blk 0 (m + 1) dj oj) := by
              unfold Hid
              rw [hwr]
              rfl
            clear hwr
            go_wp2_with fail
            go_region
            all_goals (try go_wp2_with fail)
            all_goals go_roundw
            case rel => exact ⟨i + 1, m + 1, dj, oj, by go_num, by omega, by omega, HSJ.out, HO.out.1, HO.out.2, HDR.out⟩
            case measure => simp [intOf]; omega
      · obtain rfl : i = b := by omega
        go_wp2_with fail
        refine bodyPost_end (v := .tuple #[]) (by simp [results, Try.results174, go_sem]) rfl ⟨rfl, n, dk, os, HW.out, HSK.out, HPM.out, HRS.out⟩
end Go.Proofs.Ytmkpakhpjgocjaa.So

/- The walk of a merge in place at places, whose first part is one turn. -/
namespace Go.Proofs.Ytmkpakhpjgocjaa.So
open Go.RowKit Go.Sort Go.Proofs

set_option maxRecDepth 100000 in
set_option maxHeartbeats 4000000 in
theorem mergeA_I (T : ByteArray) (cc : Nat) (blk cap a b : Nat) (d : Array Nat) (w : World) (hH : HoldsK encI 1 w blk 0 d) (hblk : blk < w.heap.size) (hab : a + 1 < b) (hb : b ≤ d.size) (hsz : d.size ≤ 1048576) (hcap : Cap w cc T) (hcb0 : cc ≠ blk) (hbd : ∀ i, dF d i < T.size)
    (hr2 : Ris (clI T) (a + 1) b (dF d)) (hsep : Sep a (a + 1) b (dF d)) :
    Calls Try.prog 175 #[.slice (some ⟨blk, 0, none⟩) d.size cap, .int .i64 a, .int .i64 (a + 1 : Nat), .int .i64 b, .func (.func 157) #[] #[.pointer (some ⟨cc, 0, none⟩)]] w fun e w' =>
      e = .returned (.tuple #[]) ∧ ∃ n d' os, w' = sortWorldK encI 1 w blk 0 n d' os ∧ d'.size = d.size ∧ PermF a b (dF d) (dF d') ∧ Ris (clI T) a b (dF d') := by
  have mixed := mixed
  have HST := hideO (world_self hH)
  have HH := hideO hH
  have HCP : Hid (∀ (m : Nat) (dk : Array Nat) (os : Array Obj), Cap (sortWorldK encI 1 w blk 0 m dk os) cc T) := fun m dk os => hcap.block (world_block m dk os hcap.lt hcb0)
  have HBD := hideO hbd
  clear hcap hcb0 hbd
  have HR2 := hideO hr2
  have HSP := hideO hsep
  clear hH hr2 hsep
  obtain ⟨z, hz⟩ : ∃ z, z = d.size := ⟨_, rfl⟩
  have HZ := hideO hz
  rw [← hz] at hb hsz ⊢
  clear hz
  obtain ⟨f, hf⟩ : ∃ f, f = dF d := ⟨_, rfl⟩
  have HFD := hideO hf
  have HBF : Hid (∀ i, f i < T.size) := by
    unfold Hid
    rw [hf]
    exact HBD.out
  rw [← hf] at HR2 HSP ⊢
  clear hf
  obtain ⟨m, hm⟩ : ∃ m, m = a + 1 := ⟨_, rfl⟩
  have hma : (m : Int) - (a : Int) = 1 := by omega
  have ham : a < m := by omega
  rw [← hm] at hab HR2 HSP ⊢
  have HM := hideO hm
  clear hm
  go_enter Try.func175, Try.ntmps175
  go_wp2_with fail
  clear hma
  go_loopw [10, 11] (fun u v wr => ∃ (i j n : Nat) (os : Array Obj), u = .int .i64 i ∧ v = .int .i64 j ∧ m ≤ i ∧ i ≤ j ∧ j ≤ b ∧ (m < i → lx (clI T) (f (i - 1)) (f a)) ∧ (j < b → lx (clI T) (f a) (f j)) ∧ wr = sortWorldK encI 1 w blk 0 n d os) (fun u v _ => (intOf v).toNat - (intOf u).toNat)
  case atStart => exact ⟨m, b, 0, #[], rfl, rfl, Nat.le_refl _, by omega, Nat.le_refl _, fun h => absurd h (by omega), fun h => absurd h (by omega), HST.out⟩
  case round =>
    obtain ⟨i, j, n, os, rfl, rfl, hmi, hij, hjb, hlo, hhi, hwr⟩ := hrel
    have HLO := hideO hlo
    have HHI := hideO hhi
    have HW := hideO hwr
    clear hlo hhi
    by_cases hlt : i < j
    · obtain ⟨h, hh⟩ : ∃ h, h = (i + j) / 2 := ⟨_, rfl⟩
      have e1 : ((i : Int) + (j : Int)) / 2 = (h : Int) := by omega
      have hhb : h < z := by omega
      have hih : i ≤ h := by omega
      have hhj : h < j := by omega
      have hHj : HoldsK encI 1 wr blk 0 d := by rw [hwr]; exact world_holds HH.out hblk n d os rfl
      have hbw : blk < wr.heap.size := by rw [hwr]; exact Nat.lt_of_lt_of_le hblk (world_size n d os)
      obtain ⟨x0c, x0f⟩ := cells_I hHj (i := h) (by have := HZ.out; omega)
      obtain ⟨y0c, y0f⟩ := cells_I hHj (i := a) (by have := HZ.out; omega)
      obtain ⟨x, hx⟩ : ∃ x, x = d[h]! := ⟨_, rfl⟩
      obtain ⟨y, hy⟩ : ∃ y, y = d[a]! := ⟨_, rfl⟩
      have HXY : Hid (x = f h ∧ y = f a) := ⟨by rw [hx, HFD.out]; rfl, by rw [hy, HFD.out]; rfl⟩
      rw [← hx] at x0c
      rw [← hy] at y0c
      have g0 := fun n' os' => cell_grown (a := ⟨blk, h, none⟩) hbw x0c n' os'
      have g2 := fun n' os' => cell_grown (a := ⟨blk, a, none⟩) hbw y0c n' os'
      have hcc : wr.cell? ⟨cc, 0, none⟩ = some (.string T) := by rw [hwr]; exact HCP.out _ _ _
      have hcw : cc < wr.heap.size := Cap.lt hcc
      have gc := fun n' os' => cell_grown (a := ⟨cc, 0, none⟩) hcw hcc n' os'
      clear hcc hcw
      have HCM : Hid (∀ W, Cap W cc T → Calls Try.prog 157 #[.int .i64 x, .int .i64 y, .pointer (some ⟨cc, 0, none⟩)] W fun e w' => e = .returned (.int .i64 (cfI T x y)) ∧ ∃ q os', w' = grow (W.drewN q) os') := fun W hW => cmp_I T cc x y W hW (by rw [HXY.out.1]; exact HBF.out _) (by rw [HXY.out.2]; exact HBF.out _)
      have hneg := cfI_neg T x y
      obtain ⟨r, hr⟩ : ∃ r, r = cfI T x y := ⟨_, rfl⟩
      rw [← hr] at hneg HCM
      have hz1 : (h : Int) < (z : Int) := by omega
      have hz2 : (a : Int) < (z : Int) := by omega
      have HCLS := hideO (fun n' os' => sortWorldK_grown_c encI 1 w blk 0 n n' d os os')
      rw [← hwr] at HCLS
      clear hr hx hy hwr hh x0c x0f y0c y0f hHj hbw
      cases hcb : clI T x y with
      | true =>
        rw [hcb] at hneg
        have hlv : r < 0 := of_decide_eq_true hneg
        have HL2 : Hid (lx (clI T) (f h) (f a)) := by
          unfold Hid
          rw [← HXY.out.1, ← HXY.out.2]
          exact lx_yes hcb
        clear hneg
        go_wp2_with fail
        go_quiet_grown (first | (go_at_call 157; refine Calls.grown_of (HCM.out _ (gc _ _))))
        have HW2 : Hid (grow (wr.drewN nq) osq = sortWorldK encI 1 w blk 0 (n + nq) d (os ++ osq)) := HCLS.out nq osq
        dsimp only
        clear g0 g2 gc
        go_wp2_with fail
        go_roundw
        case rel => exact ⟨h + 1, j, n + nq, os ++ osq, by go_num, rfl, by omega, by omega, hjb, fun _ => HL2.out, HHI.out, HW2.out⟩
        case measure => simp [intOf]; omega
      | false =>
        rw [hcb] at hneg
        have hlv : ¬ r < 0 := of_decide_eq_false hneg
        have HL2 : Hid (lx (clI T) (f a) (f h)) := by
          unfold Hid
          have hpl := HSP.out a h (Nat.le_refl _) ham (by omega) (by omega)
          rw [← HXY.out.1, ← HXY.out.2] at hpl ⊢
          exact lx_no hcb hpl
        clear hneg
        go_wp2_with fail
        go_quiet_grown (first | (go_at_call 157; refine Calls.grown_of (HCM.out _ (gc _ _))))
        have HW2 : Hid (grow (wr.drewN nq) osq = sortWorldK encI 1 w blk 0 (n + nq) d (os ++ osq)) := HCLS.out nq osq
        dsimp only
        clear g0 g2 gc
        go_wp2_with fail
        go_roundw
        case rel => exact ⟨i, h, n + nq, os ++ osq, rfl, rfl, hmi, by omega, by omega, HLO.out, fun _ => HL2.out, HW2.out⟩
        case measure => simp [intOf]; omega
    · obtain rfl : i = j := by omega
      have HRR : Hid (Ris (clI T) a b (rotF a m i f)) := by
        unfold Hid
        have hmm := HM.out
        rw [hmm] at HR2 ⊢
        exact up_ris (clI_weak T) HR2.out (by omega) (by omega)
          (fun k h1 h2 => HR2.out.le h1 (show k ≤ i - 1 by omega) (by omega) (clI_weak T) (HLO.out (by omega)))
          (fun k h1 h2 => HR2.out.ge (by omega) h1 h2 (clI_weak T) (HHI.out (by omega)))
      have HPP : Hid (PermF a b f (rotF a m i f)) := (rot_perm f (by omega) (by omega)).mono (Nat.le_refl _) (by omega) hjb
      clear hwr
      go_wp2_with fail
      go_loopw [13] (fun u wr2 => ∃ (k n : Nat) (dk : Array Nat) (os : Array Obj), u = .int .i64 k ∧ a ≤ k ∧ k + 1 ≤ i ∧ dk.size = z ∧ dF dk = rotF a m (k + 1) f ∧ wr2 = sortWorldK encI 1 w blk 0 n dk os) (fun u _ => i - (intOf u).toNat)
      case atStart => exact ⟨a, n, d, os, rfl, Nat.le_refl _, by omega, HZ.out.symm, by rw [HM.out, rot_up0]; exact HFD.out.symm, HW.out⟩
      case round =>
        obtain ⟨k, n2, dk, os2, rfl, hak, hki, hsk, hfk, hwr⟩ := hrel
        have HSK := hideO hsk
        have HFK := hideO hfk
        obtain ⟨ip, hip⟩ : ∃ ip, i = ip + 1 := ⟨i - 1, by omega⟩
        have eip : (i : Int) - 1 = (ip : Int) := by omega
        have hipw : IntKind.i64.wrap (ip : Int) = (ip : Int) := by rw [IntKind.wrap_i64]; omega
        have HIP := hideO hip
        by_cases hlt2 : k + 1 < i
        · obtain ⟨q, hq⟩ : ∃ q, q = k + 1 := ⟨_, rfl⟩
          have eq1 : (k : Int) + 1 = (q : Int) := by omega
          have hH2 : HoldsK encI 1 wr blk 0 dk := by rw [hwr]; exact world_holds HH.out hblk n2 dk os2 (hsk.trans HZ.out)
          obtain ⟨x0c, x0f⟩ := cells_I hH2 (i := k) (by omega)
          obtain ⟨y0c, y0f⟩ := cells_I hH2 (i := q) (by omega)
          obtain ⟨x, hx⟩ : ∃ x, x = dk[k]! := ⟨_, rfl⟩
          obtain ⟨y, hy⟩ : ∃ y, y = dk[q]! := ⟨_, rfl⟩
          have hsw := sortWorldK_swp_c encI 1 w blk 0 encI_len n2 dk os2 hblk k q (by omega) (by omega)
          rw [← hx, ← hy, ← hwr, Nat.zero_add, Nat.zero_add, Nat.mul_one, Nat.mul_one] at hsw
          rw [← hx] at x0c
          rw [← hy] at y0c
          have HSW := hideO hsw
          have hkz : (k : Int) < (z : Int) := by omega
          have hqz : (q : Int) < (z : Int) := by omega
          have hqw : IntKind.i64.wrap (q : Int) = (q : Int) := by rw [IntKind.wrap_i64]; omega
          have hkip : (k : Int) < (ip : Int) := by omega
          have hkq : k < q := by omega
          have HQ := hideO hq
          have HROT : Hid (So.swp (rotF a m (k + 1) f) k q = rotF a m (k + 2) f) := by
            unfold Hid
            rw [HM.out, hq]
            exact rot_up a k f hak
          clear hwr hH2 hx hy hsw hsk hfk hip hq
          go_wp2_with fail
          go_region
          all_goals (try go_wp2_with fail)
          all_goals go_roundw
          case rel =>
            refine ⟨q, n2 + 1, Go.Sort.swp dk k q, os2, rfl, by omega, by have := HQ.out; omega, by rw [Go.Sort.size_swp]; exact HSK.out, ?_, HSW.out⟩
            rw [dF_swp dk k q (by have := HSK.out; have := HQ.out; omega) (by have := HSK.out; have := HQ.out; omega), HFK.out, HROT.out, HQ.out]
          case measure => have := HQ.out; simp [intOf]; omega
        · have hkip : ¬ (k : Int) < (ip : Int) := by omega
          have HWW := hideO hwr
          have HE : Hid (dF dk = rotF a m i f) := by
            unfold Hid
            rw [hfk, show k + 1 = i by omega]
          clear hwr hsk hfk hip
          go_wp2_with fail
          refine bodyPost_ret (v := .tuple #[]) (by simp [results, Try.results175, go_sem]) rfl ⟨rfl, n2, dk, ⟨os2, HWW.out⟩, HSK.out, by rw [HE.out]; exact HPP.out, by rw [HE.out]; exact HRR.out⟩
end Go.Proofs.Ytmkpakhpjgocjaa.So
