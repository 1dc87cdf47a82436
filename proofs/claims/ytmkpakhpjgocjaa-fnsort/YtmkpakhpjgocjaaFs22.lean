/- Texts put together: DrawSort, SoInsT. -/
import Derived.Test.YtmkpakhpjgocjaaFs21
import Derived.Test.YtmkpakhpjgocjaaFs19
import Derived.Test.YtmkpakhpjgocjaaFs5
import Derived.Test.YtmkpakhpjgocjaaFs1
/- The drawn texts of the law on sorted blocks: what is drawn for Bwt and for FrontOf. -/
namespace Go.Proofs.Ytmkpakhpjgocjaa.Dr
open Go.RowKit
open Go.Proofs.Ytmkpakhpjgocjaa.Sh (made_row strF strF_size)

set_option maxRecDepth 100000 in
set_option maxHeartbeats 2000000 in
theorem some5_any (B : Nat) (a : Option Addr) (len cap : Nat) (w : World) (hl : len ≤ 1048576) (hs : Src w B a len cap) :
    Calls Try.prog 97 #[.pointer (some ⟨B, 0, none⟩)] w fun e w' => ∃ s : ByteArray, s.size ≤ 50 ∧ e = .returned (.string s) ∧ Src w' B a len cap ∧ Aft B w w' := by
  obtain ⟨i0, hi0, hz0, hz1, hz2⟩ := info_parts Try.infoD5
  have HS := hideD hs
  clear hs
  go_enter Try.func97, Try.ntmps97
  go_wp2_with fail
  refine (one_any B a len cap 15 _ hl (by omega) HS.out).mono ?_
  rintro e w1 ⟨r, rfl, hs1, ho1⟩
  have HS1 := hideD hs1
  have HO1 := hideD ho1
  clear hs1 ho1
  cases r with
  | true =>
    go_wp2_with fail
    refine (n_any B a len cap 3 _ hl (by omega) HS1.out).mono ?_
    rintro e w2 ⟨r2, rfl, p0, p1, hs2, ho2⟩
    obtain ⟨m, rfl⟩ := Int.eq_ofNat_of_zero_le p0
    obtain ⟨n, hn⟩ : ∃ n : Nat, n = 47 + m := ⟨_, rfl⟩
    have en : 47 + (m : Int) = (n : Int) := by omega
    have hn50 : n ≤ 50 := by omega
    have HS2 := hideD hs2
    have HA2 := hideD (HO1.out.trans ho2).aft
    clear hs2 ho2 p0 p1 hn
    go_wp2_with (at_make; refine wpList_make_full _ rfl (.tmp 7) (.tmp 7) 22 rfl w2.heap.size 5 i0 (.int .u8 0) 1 Try.underlying22 hi0 hz0 hz1 .i64 .i64 _ _ n rfl rfl (by simp) (by simp) (by rw [hz2]; omega) (by unfold maxLen; omega) (Nat.le_refl _) ?_; intro w3 hown3 hgrow3; have hT3 := made_row hown3; have hb3 := (Below.refl w2.heap.size w2).grown hgrow3 (Nat.le_refl _) (by simp); have hcv := hT3.str (f := fun _ => 0) (P := Try.prog) (src := 22) (dst := 9) n n (Nat.le_refl _) (fun j _ => by decide) Try.underlying22 Try.underlying5 Try.underlying9; have HS3 := hideD (HS2.out.below hb3); have HA3 := hideD (HA2.out.trans (aft_below hb3)); clear hown3 hgrow3 hT3 hb3)
    go_ret
    exact ⟨_, by rw [strF_size]; exact hn50, rfl, HS3.out, HA3.out⟩
  | false =>
    go_wp2_with fail
    refine (text5_any B a len cap _ hl HS1.out).mono ?_
    rintro e w2 ⟨s, hs, rfl, hs2, ha2⟩
    have HX : Hid (∃ s' : ByteArray, s'.size ≤ 50 ∧ Ending.returned (.string s) = .returned (.string s') ∧ Src w2 B a len cap ∧ Aft B w w2) := ⟨s, by omega, rfl, hs2, HO1.out.aft.trans ha2⟩
    clear hs2 ha2
    go_wp2_with fail
    go_ret
    exact HX.out

set_option maxHeartbeats 1000000 in
theorem drawBwt_any (a : Option Addr) (len cap : Nat) (w : World) (hl : len ≤ 1048576) (hr : Row w w.heap.size a len) :
    Calls Try.prog 33 #[.slice a len cap] w fun e w' => ∃ s : ByteArray, s.size ≤ 50 ∧ e = .returned (.string s) ∧ Below w.heap.size w w' := by
  have HR := hideD hr
  clear hr
  go_enter Try.func33, Try.ntmps33
  go_wp2_with fail
  refine (source_any a len cap _ hl HR.out).mono ?_
  rintro e w1 ⟨rfl, hs1, hb1, hz⟩
  have HS1 := hideD hs1
  have HB1 := hideD hb1
  have z1 := hb1.size
  clear hs1 hb1 hz
  go_wp2_with fail
  refine (some5_any w.heap.size a len cap _ hl HS1.out).mono ?_
  rintro e w2 ⟨s, hs, rfl, hs2, ha2⟩
  have HB2 := hideD (ha2.below HB1.out (Nat.le_refl _) z1)
  clear hs2 ha2
  go_wp2_with fail
  go_ret
  exact ⟨s, hs, rfl, HB2.out⟩
set_option maxHeartbeats 1000000 in
theorem drawFrontOf_any (a : Option Addr) (len cap : Nat) (w : World) (hl : len ≤ 1048576) (hr : Row w w.heap.size a len) :
    Calls Try.prog 37 #[.slice a len cap] w fun e w' => ∃ s : ByteArray, s.size ≤ 32 ∧ e = .returned (.string s) ∧ Below w.heap.size w w' := by
  have HR := hideD hr
  clear hr
  go_enter Try.func37, Try.ntmps37
  go_wp2_with fail
  refine (source_any a len cap _ hl HR.out).mono ?_
  rintro e w1 ⟨rfl, hs1, hb1, hz⟩
  have HS1 := hideD hs1
  have HB1 := hideD hb1
  have z1 := hb1.size
  clear hs1 hb1 hz
  go_wp2_with fail
  refine (text5_any w.heap.size a len cap _ hl HS1.out).mono ?_
  rintro e w2 ⟨s, hs, rfl, hs2, ha2⟩
  have HB2 := hideD (ha2.below HB1.out (Nat.le_refl _) z1)
  clear hs2 ha2
  go_wp2_with fail
  go_ret
  exact ⟨s, hs, rfl, HB2.out⟩
end Go.Proofs.Ytmkpakhpjgocjaa.Dr

/- The walk of a stable sort's insertion at turns. -/
namespace Go.Proofs.Ytmkpakhpjgocjaa.So
open Go.RowKit Go.Sort Go.Proofs

/-- the function that compares, as it is handed over -/
def cvT : Value := .func (.func 133) #[] #[]

set_option maxRecDepth 100000 in
set_option maxHeartbeats 2000000 in
theorem insertion_T (T : Nat → ByteArray) (blk cap a b : Nat) (d : Array Nat) (w : World) (hH : HoldsK (encT T) 2 w blk 0 d) (hblk : blk < w.heap.size) (hab : a ≤ b) (hb : b ≤ d.size) (hsz : d.size ≤ 1048576)
    (hrise : ∀ i j, a ≤ i → i < j → j < b → dF d i < dF d j) :
    Calls Try.prog 165 #[.slice (some ⟨blk, 0, none⟩) d.size cap, .int .i64 a, .int .i64 b, .func (.func 133) #[] #[]] w fun e w' =>
      e = .returned (.tuple #[]) ∧ ∃ n d' os, w' = sortWorldK (encT T) 2 w blk 0 n d' os ∧ d'.size = d.size ∧ PermF a b (dF d) (dF d') ∧ Ris (clT T) a b (dF d') := by
  have mixed := mixed
  have HST := hideO (world_self hH)
  have HH := hideO hH
  have HRI := hideO hrise
  clear hH hrise
  obtain ⟨z, hz⟩ : ∃ z, z = d.size := ⟨_, rfl⟩
  have HZ := hideO hz
  rw [← hz] at hb hsz ⊢
  clear hz
  by_cases hE : a = b
  · subst hE
    go_enter Try.func165, Try.ntmps165
    go_wp2_with fail
    go_loopw [8] (fun i wr => i = .int .i64 ((a : Int) + 1) ∧ wr = w) (fun _ _ => 0)
    case atStart => exact ⟨by go_num, rfl⟩
    case round =>
      obtain ⟨rfl, rfl⟩ := hrel
      go_wp2_with fail
      refine bodyPost_end (v := .tuple #[]) (by simp [results, Try.results165, go_sem]) rfl ⟨rfl, 0, d, #[], HST.out, HZ.out.symm, PermF.refl _ _ _, fun i j h1 h2 h3 => absurd h3 (by omega)⟩
  · have hlt0 : a < b := by omega
    clear hE hab
    go_enter Try.func165, Try.ntmps165
    go_wp2_with fail
    go_loopw [8] (fun vi wr => ∃ (i n : Nat) (dk : Array Nat) (os : Array Obj), vi = .int .i64 i ∧ a < i ∧ i ≤ b ∧ dk.size = z ∧ PermF a i (dF d) (dF dk) ∧ Ris (clT T) a i (dF dk) ∧ wr = sortWorldK (encT T) 2 w blk 0 n dk os) (fun vi _ => b - (intOf vi).toNat)
    case atStart => exact ⟨a + 1, 0, d, #[], by go_num, by omega, by omega, HZ.out.symm, PermF.refl _ _ _, fun i j h1 h2 h3 => absurd h3 (by omega), HST.out⟩
    case round =>
      obtain ⟨i, n, dk, os, rfl, hai, hib, hsk, hperm, hris, hwr⟩ := hrel
      have HSK := hideO hsk
      have HPM := hideO hperm
      have HRS := hideO hris
      have HW := hideO hwr
      clear hsk hperm hris hwr
      by_cases hlt : i < b
      · obtain ⟨f, hf⟩ : ∃ f, f = dF dk := ⟨_, rfl⟩
        rw [← hf] at HPM HRS
        have HFD := hideO hf
        have HPL : Hid (∀ k, a ≤ k → k < i → f k < f i) := fun k h1 h2 => by
          have e : f i = dF d i := HPM.out.2 i (Or.inr (Nat.le_refl _))
          rw [e]
          exact HPM.out.all (p := fun v => v < dF d i) (fun j h3 h4 => HRI.out j i h3 h4 hlt) k h1 h2
        clear hf
        go_wp2_with fail
        go_loopw [9] (fun vj wr2 => ∃ (j m : Nat) (dj : Array Nat) (oj : Array Obj), vj = .int .i64 j ∧ a ≤ j ∧ j ≤ i ∧ dj.size = z ∧ dF dj = rotF j i (i + 1) f ∧ (∀ k, j ≤ k → k < i → clT T (f i) (f k) = true) ∧ wr2 = sortWorldK (encT T) 2 w blk 0 m dj oj) (fun vj _ => (intOf vj).toNat)
        case atStart => exact ⟨i, n, dk, os, rfl, by omega, Nat.le_refl _, HSK.out, by rw [rot_down0]; exact HFD.out.symm, fun k h1 h2 => absurd h2 (by omega), HW.out⟩
        case round =>
          obtain ⟨j, m, dj, oj, rfl, haj, hji, hsj, hfj, hcl, hwr⟩ := hrel
          have HSJ := hideO hsj
          have HFJ := hideO hfj
          have HCL := hideO hcl
          have HWJ := hideO hwr
          -- the end of the inner loop
          have OUT : Hid ((∀ k, a ≤ k → k < j → lx (clT T) (f k) (f i)) → PermF a (i + 1) (dF d) (dF dj) ∧ Ris (clT T) a (i + 1) (dF dj)) := fun hlo => by
            rw [HFJ.out]
            refine ⟨?_, ?_⟩
            · have h1 := HPM.out.mono (Nat.le_refl a) (Nat.le_of_lt hai) (Nat.le_succ i)
              exact h1.trans ((rot_perm f hji (Nat.le_succ i)).mono haj (by omega) (Nat.le_refl _))
            · exact down_ris (clT_weak T) HRS.out haj hji hlo (fun k h1 h2 => lx_yes (HCL.out k h1 h2))
          clear hsj hfj hcl
          by_cases hja : a < j
          · obtain ⟨jp, hjp⟩ : ∃ jp, j = jp + 1 := ⟨j - 1, by omega⟩
            have HJP := hideO hjp
            have hHj : HoldsK (encT T) 2 wr blk 0 dj := by rw [hwr]; exact world_holds HH.out hblk m dj oj (HSJ.out.trans HZ.out)
            have hbw : blk < wr.heap.size := by rw [hwr]; exact Nat.lt_of_lt_of_le hblk (world_size m dj oj)
            obtain ⟨x0c, x0f, x1c, x1f⟩ := cells_T hHj (i := j) (by have := HSJ.out; omega)
            obtain ⟨y0c, y0f, y1c, y1f⟩ := cells_T hHj (i := jp) (by have := HSJ.out; omega)
            have ex : dj[j]! = f i := by
              have : dF dj j = f i := by
                rw [HFJ.out, rot_first f j (Nat.le_refl _) (by omega)]
                congr 1
                omega
              exact this
            have ey : dj[jp]! = f jp := by
              have : dF dj jp = f jp := by rw [HFJ.out, rot_out f jp (Or.inl (by omega)) hji (Nat.le_succ i)]
              exact this
            rw [ex] at x0c x1c
            rw [ey] at y0c y1c
            obtain ⟨x, hx⟩ : ∃ x, x = f i := ⟨_, rfl⟩
            obtain ⟨y, hy⟩ : ∃ y, y = f jp := ⟨_, rfl⟩
            have HXY : Hid (x = f i ∧ y = f jp) := ⟨hx, hy⟩
            rw [← hx] at x0c x1c
            rw [← hy] at y0c y1c
            have g0 := fun n' os' => cell_grown (a := ⟨blk, j * 2, none⟩) hbw x0c n' os'
            have g1 := fun n' os' => cell_grown (a := ⟨blk, j * 2 + 1, none⟩) hbw x1c n' os'
            have g2 := fun n' os' => cell_grown (a := ⟨blk, jp * 2, none⟩) hbw y0c n' os'
            have g3 := fun n' os' => cell_grown (a := ⟨blk, jp * 2 + 1, none⟩) hbw y1c n' os'
            have HCM : Hid (∀ W, Calls Try.prog 133 #[.agg #[.int .i64 x, .string (T x)], .agg #[.int .i64 y, .string (T y)]] W fun e w' => e = .returned (.int .i64 (cfT T x y)) ∧ ∃ q os', w' = grow (W.drewN q) os') := fun W => cmp_T T x y W
            have hneg := cfT_neg T x y
            obtain ⟨r, hr⟩ : ∃ r, r = cfT T x y := ⟨_, rfl⟩
            rw [← hr] at hneg HCM
            have e1 : (j : Int) - 1 = (jp : Int) := by omega
            have hwp : IntKind.i64.wrap (jp : Int) = (jp : Int) := by rw [IntKind.wrap_i64]; omega
            have jz : (j : Int) < (z : Int) := by omega
            have jz1 : (jp : Int) < (z : Int) := by omega
            have hjaz : (a : Int) < (j : Int) := by omega
            have hjad : decide ((a : Int) < (j : Int)) = true := decide_eq_true hjaz
            have HCLS := hideO (fun n' os' => sortWorldK_grown_c (encT T) 2 w blk 0 m n' dj oj os')
            rw [← hwr] at HCLS
            clear hr ex ey hx hy hjp hwr
            cases hcb : clT T x y with
            | true =>
              rw [hcb] at hneg
              have hlv : r < 0 := of_decide_eq_true hneg
              clear hneg
              go_wp2_with fail
              go_quiet_grown (first | (go_at_call 133; refine Calls.grown_of (HCM.out _)))
              have hW2 : grow (wr.drewN nq) osq = sortWorldK (encT T) 2 w blk 0 (m + nq) dj (oj ++ osq) := HCLS.out nq osq
              dsimp only
              clear g0 g1 g2 g3 x0c x0f x1c x1f y0c y0f y1c y1f hHj hbw
              generalize grow (wr.drewN nq) osq = W2 at hW2 ⊢
              have hH2 : HoldsK (encT T) 2 W2 blk 0 dj := by rw [hW2]; exact world_holds HH.out hblk (m + nq) dj (oj ++ osq) (HSJ.out.trans HZ.out)
              obtain ⟨x0c, x0f, x1c, x1f⟩ := cells_T hH2 (i := j) (by have := HSJ.out; omega)
              obtain ⟨y0c, y0f, y1c, y1f⟩ := cells_T hH2 (i := jp) (by have := HSJ.out; omega)
              have ex : dj[j]! = x := by
                have : dF dj j = x := by
                  rw [HXY.out.1, HFJ.out, rot_first f j (Nat.le_refl _) (by omega)]
                  congr 1
                  omega
                exact this
              have ey : dj[jp]! = y := by
                have : dF dj jp = y := by rw [HXY.out.2, HFJ.out, rot_out f jp (Or.inl (by have := HJP.out; omega)) hji (Nat.le_succ i)]
                exact this
              have hsw := sortWorldK_swp_c (encT T) 2 w blk 0 (encT_len T) (m + nq) dj (oj ++ osq) hblk j jp (by have := HSJ.out; omega) (by have := HSJ.out; omega)
              rw [ex, ey, ← hW2, Nat.zero_add, Nat.zero_add] at hsw
              rw [ex] at x0c x1c
              rw [ey] at y0c y1c
              have HSW := hideO hsw
              have hjne : jp < j := by have := HJP.out; omega
              have HROT : Hid (So.swp (rotF j i (i + 1) f) j jp = rotF jp i (i + 1) f) := by
                unfold Hid
                rw [HJP.out]
                exact rot_down jp i f (by have := HJP.out; omega)
              clear hW2 hH2 ex ey hsw
              go_wp2_with fail
              go_region
              all_goals (try go_wp2_with fail)
              all_goals go_roundw
              case rel =>
                refine ⟨jp, m + nq + 1, Go.Sort.swp dj j jp, oj ++ osq, rfl, by have := HJP.out; omega, by omega, by rw [Go.Sort.size_swp]; exact HSJ.out, ?_, fun k h1 h2 => ?_, HSW.out⟩
                · rw [dF_swp dj j jp (by have := HSJ.out; omega) (by have := HSJ.out; omega), HFJ.out]
                  exact HROT.out
                · rcases Nat.eq_or_lt_of_le h1 with e | e
                  · rw [← e, ← HXY.out.1, ← HXY.out.2]
                    exact hcb
                  · exact HCL.out k (by have := HJP.out; omega) h2
              case measure => have := HJP.out; simp [intOf]; omega
            | false =>
              rw [hcb] at hneg
              have hlv : ¬ r < 0 := of_decide_eq_false hneg
              have HO := hideO (OUT.out (fun k h1 h2 => by
                have hjx : lx (clT T) (f jp) (f i) := by
                  rw [← HXY.out.1, ← HXY.out.2]
                  refine lx_no hcb ?_
                  rw [HXY.out.1, HXY.out.2]
                  exact HPL.out jp (by have := HJP.out; omega) (by have := HJP.out; omega)
                exact HRS.out.le h1 (show k ≤ jp by have := HJP.out; omega) (by have := HJP.out; omega) (clT_weak T) hjx))
              clear hneg
              go_wp2_with fail
              go_quiet_grown (first | (go_at_call 133; refine Calls.grown_of (HCM.out _)))
              have HW2 : Hid (grow (wr.drewN nq) osq = sortWorldK (encT T) 2 w blk 0 (m + nq) dj (oj ++ osq)) := HCLS.out nq osq
              dsimp only
              clear g0 g1 g2 g3 x0c x0f x1c x1f y0c y0f y1c y1f hHj hbw
              go_wp2_with fail
              go_roundw
              case rel => exact ⟨i + 1, m + nq, dj, oj ++ osq, by go_num, by omega, by omega, HSJ.out, HO.out.1, HO.out.2, HW2.out⟩
              case measure => simp [intOf]; omega
          · have hjad : decide ((a : Int) < (j : Int)) = false := decide_eq_false (by omega)
            have hjaz : ¬ (a : Int) < (j : Int) := by omega
            have HO := hideO (OUT.out (fun k h1 h2 => absurd h2 (by omega)))
            have HDR : Hid (wr.drew = sortWorldK (encT T) 2 w blk 0 (m + 1) dj oj) := by
              unfold Hid
              rw [hwr]
              rfl
            clear hwr
            go_wp2_with fail
            go_region
            all_goals (try go_wp2_with fail)
            all_goals go_roundw
            case rel => exact ⟨i + 1, m + 1, dj, oj, by go_num, by omega, by omega, HSJ.out, HO.out.1, HO.out.2, HDR.out⟩
            case measure => simp [intOf]; omega
      · obtain rfl : i = b := by omega
        go_wp2_with fail
        refine bodyPost_end (v := .tuple #[]) (by simp [results, Try.results165, go_sem]) rfl ⟨rfl, n, dk, os, HW.out, HSK.out, HPM.out, HRS.out⟩
end Go.Proofs.Ytmkpakhpjgocjaa.So
