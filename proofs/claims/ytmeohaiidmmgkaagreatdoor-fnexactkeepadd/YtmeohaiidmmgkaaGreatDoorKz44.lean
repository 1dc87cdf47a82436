/- Texts put together: KqAdd, StrRow, StrEq, StrLaws. -/
import Derived.Test.YtmeohaiidmmgkaaGreatDoorKz43
import Derived.Test.YtmeohaiidmmgkaaGreatDoorKz13
import Derived.BigRegion
import Derived.BigQuiet
import Derived.Deep.QuietTactic
/- KeepAdd of the specification. -/
namespace Go.Proofs.YtmeohaiidmmgkaaGreatDoor.Kp
open Go.RowKit
open Go.Proofs.YtmeohaiidmmgkaaGreatDoor.Ls (rightB lV lowL blkL cells3)
open Go.Proofs.YtmeohaiidmmgkaaGreatDoor.St (Strs)
def addS (fit : Rec → Bool) (z b : Int) (r s : ByteArray) (y : Int) (out : List Rec) (x : Rec) : Value :=
 if fit x = false then koV 0 0 ⟨#[]⟩ ⟨#[]⟩ 0 5
 else if hasR out x.1 = true then koV 0 0 ⟨#[]⟩ ⟨#[]⟩ 0 7
 else if 8000 < (s ++ recT x).size then koV 0 0 ⟨#[]⟩ ⟨#[]⟩ 0 9
 else koV z b r (s ++ recT x) y 0
theorem kB_set3 {W : World} {g : Nat} {z b : Int} {r s : ByteArray} {y : Int} (h : W.heap[g]? = some (kB z b r s y)) (t : ByteArray) : (W.setCell ⟨g, 3, none⟩ (.string t)).heap[g]? = some (kB z b r t y) := (k_set h t 0).1
set_option maxRecDepth 100000 in
set_option maxHeartbeats 4000000 in
theorem l08Add_any (fit : Rec → Bool) (z b : Int) (r s : ByteArray) (y : Int) (base : Nat) (v : Value) (m : List MR) (x : MR) (w : World) (hs : s.size ≤ 8000) (hm : m.length ≤ 1048576) (hrow : RowQ w base v m) (ht : x.1.2.1.size ≤ 8000) (hpl : x.1.2.2.length ≤ 1048576) (hp : ∃ a cap, x.2 = .slice a x.1.2.2.length cap ∧ x.1.2.2.length ≤ cap ∧ Strs w w.heap.size a x.1.2.2) (hf : FitS fit z b r w) (hff : FitF fit) :
  Calls Tryz.prog 39 #[kV z b r s y, v, .agg #[.int .i64 x.1.1, .string x.1.2.1, x.2]] w fun e w' => e = .returned (addS fit z b r s y (recs m) x.1) ∧ Below w.heap.size w w' := by
 obtain ⟨⟨i, t, p⟩, xv⟩ := x
 obtain ⟨a, cap, hv, hc, hst⟩ := hp
 dsimp only at ht hpl hv hc hst ⊢
 subst hv
 obtain ⟨n, hn⟩ : ∃ n, n = p.length := ⟨_, rfl⟩
 have C0 := hideK ((((Cx.nil w).new (kB z b r s y)).new (.cells #[.int .i64 i, .string t, .slice a p.length cap] 69)).new koZ)
 simp only [World.size_alloc] at C0
 have HA : Hid (addS fit z b r s y (recs m) (i, t, p) = if fit (i, t, p) = false then koV 0 0 ⟨#[]⟩ ⟨#[]⟩ 0 5 else if hasR (recs m) i = true then koV 0 0 ⟨#[]⟩ ⟨#[]⟩ 0 7 else if 8000 < (s ++ recT (i, t, p)).size then koV 0 0 ⟨#[]⟩ ⟨#[]⟩ 0 9 else koV z b r (s ++ recT (i, t, p)) y 0) := rfl
 generalize addS fit z b r s y (recs m) (i, t, p) = A at HA ⊢
 have HFT := hideK (fun W (h : Below w.heap.size w W) (h4 : p.length ≤ 20) => hf W ((i, t, p), .slice a p.length cap) h ht h4 ⟨a, cap, rfl, hc, (hst.below h).mono h.size⟩)
 have HTX := hideK (fun W (h : Below w.heap.size w W) (hk : fit (i, t, p) = true) => l08Text_any ((i, t, p), .slice a p.length cap) W (hff _ hk).1 (hff _ hk).2.1 (hff _ hk).2.2.1 (hff _ hk).2.2.2.1 (hff _ hk).2.2.2.2 ⟨a, cap, rfl, hc, (hst.below h).mono h.size⟩)
 have HLG : Hid (20 < n → fit (i, t, p) = false) := fun h => by
  cases hq : fit (i, t, p) with
  | false => rfl
  | true => have := (hff _ hq).2.2.2.1; dsimp only at this; omega
 have HRW := hideK (fun W (h : Below w.heap.size w W) => l08Has_any base m.length i v m W (hrow.below h) rfl hm)
 dsimp only at HFT HTX
 rw [← hn] at hpl hc HFT HTX C0 ⊢
 have hTs := recT_size (i, t, p)
 generalize recT (i, t, p) = T at HA HTX hTs
 obtain ⟨a1, cap1, hv1, _⟩ := hrow.one
 unfold kV
 unfold lV at HFT
 unfold kB koZ at C0
 unfold koV at HA
 clear hst hf hff hn hrow
 subst hv1
 go_enter Tryz.func39, Tryz.ntmps39
 go_upto_region 1 with fail
 generalize ((w.alloc _).alloc _).alloc _ = W0 at C0 ⊢
 generalize hgk : w.heap.size = gk at C0 ⊢
 have HGK := hideK hgk
 clear hgk
 obtain ⟨k0, k1, k2, k3, k4⟩ := k_cells (C0.out.get 2 rfl)
 obtain ⟨x0, x1, x2⟩ := cells3 (C0.out.get 1 rfl)
 by_cases h20 : n ≤ 20
 ·have h20' : ¬ ((20 : Int) < n) := by omega
  have h20D : decide ((20 : Int) < (n : Int)) = false := by simp; omega
  have HFT1 := hideK (HFT.out W0 C0.out.low h20)
  go_wp2_with fail
  refine HFT1.out.mono ?_
  rintro e w1 ⟨rfl, hb⟩
  have C1 := hideK (C0.out.call hb)
  clear hb C0 HFT HFT1 HLG k0 k1 k2 k3 k4 x0 x1 x2
  obtain ⟨x0, x1, x2⟩ := cells3 (C1.out.get 1 rfl)
  cases hfit : fit (i, t, p) with
  | false =>
   rw [hfit, if_pos rfl] at HA
   have HE := HA
   clear hfit HTX HRW
   obtain ⟨q0, q1, q2, q3, q4, q5⟩ := cells6 (C1.out.get 0 rfl)
   have ff := fun o => frozen_of_row w1 (gk + 1 + 1) o _ _ (C1.out.get 0 rfl)
   have HF := hideK (ans6 (C1.out.get 0 rfl) C1.out.low (by have := HGK.out; omega) (.int .i64 0) (.int .i64 0) (.string ⟨#[]⟩) (.string ⟨#[]⟩) (.int .i64 0) (.int .i64 5))
   have s6 := cells6 HF.out.2
   go_wp2_with fail
   exact bodyPost_ret (v := .agg #[.int .i64 0, .int .i64 0, .string ⟨#[]⟩, .string ⟨#[]⟩, .int .i64 0, .int .i64 5]) (by simp [results, Tryz.results39, go_sem, s6.1, s6.2.1, s6.2.2.1, s6.2.2.2.1, s6.2.2.2.2.1, s6.2.2.2.2.2]) rfl ⟨by rw [HE.out], HF.out.1⟩
  | true =>
   rw [hfit, if_neg (by decide)] at HA
   have HTX1 := hideK (fun W hW => HTX.out W hW hfit)
   clear hfit HTX
   go_wp2_with fail
   refine (HRW.out _ C1.out.low).mono ?_
   rintro e w2 ⟨hho, hw⟩
   subst w2
   rcases hho.cases with ⟨hhas, jh, rfl⟩ | ⟨hhas, rfl⟩
   ·rw [hhas, if_pos rfl] at HA
    have HE := HA
    clear hho hhas HTX1 HRW
    obtain ⟨q0, q1, q2, q3, q4, q5⟩ := cells6 (C1.out.get 0 rfl)
    have ff := fun o => frozen_of_row w1 (gk + 1 + 1) o _ _ (C1.out.get 0 rfl)
    have HF := hideK (ans6 (C1.out.get 0 rfl) C1.out.low (by have := HGK.out; omega) (.int .i64 0) (.int .i64 0) (.string ⟨#[]⟩) (.string ⟨#[]⟩) (.int .i64 0) (.int .i64 7))
    have s6 := cells6 HF.out.2
    go_wp2_with fail
    exact bodyPost_ret (v := .agg #[.int .i64 0, .int .i64 0, .string ⟨#[]⟩, .string ⟨#[]⟩, .int .i64 0, .int .i64 7]) (by simp [results, Tryz.results39, go_sem, s6.1, s6.2.1, s6.2.2.1, s6.2.2.2.1, s6.2.2.2.2.1, s6.2.2.2.2.2]) rfl ⟨by rw [HE.out], HF.out.1⟩
   ·rw [hhas, if_neg (by decide)] at HA
    clear hho hhas HRW
    go_upto_region 5 with fail
    obtain ⟨k0, k1, k2, k3, k4⟩ := k_cells (C1.out.get 2 rfl)
    have g3 := fun d os => cell_regrown k3 d os
    have e0 := fun d os => cell_regrown x0 d os
    have e1 := fun d os => cell_regrown x1 d os
    have e2 := fun d os => cell_regrown x2 d os
    have hmx := mixedT
    have s1 : ¬ 9223372036854775807 < s.size + T.size := by omega
    refine wp_region_quiet_below (by assumption) (by kernel_rfl) ?_
    repeat (go_big_quiet_step ((first | (go_at_call 57; exact Calls.regrown_of (HTX1.out _ (lowL C1.out.low (below_regrown _ _ _)))))))
    refine wpQuiet_nil ?_
    intro _ hw'
    obtain ⟨⟨dq, osq⟩, hw''⟩ := hw'
    subst hw''
    have K1 := hideK (below_regrown w1 dq osq)
    generalize Go.Sort.grow (redrawn w1 dq) osq = w8 at K1 ⊢
    have C8 := hideK (C1.out.call K1.out)
    clear g3 e0 e1 e2 k0 k1 k2 k3 k4 x0 x1 x2 C1 K1 HTX1
    generalize s ++ T = L at HA ⊢
    obtain ⟨k0, k1, k2, k3, k4⟩ := k_cells (C8.out.get 2 rfl)
    by_cases h9 : 8000 < L.size
    ·rw [if_pos h9] at HA
     have HE := HA
     have h9' : (8000 : Int) < L.size := by omega
     obtain ⟨q0, q1, q2, q3, q4, q5⟩ := cells6 (C8.out.get 0 rfl)
     have ff := fun o => frozen_of_row w8 (gk + 1 + 1) o _ _ (C8.out.get 0 rfl)
     have HF := hideK (ans6 (C8.out.get 0 rfl) C8.out.low (by have := HGK.out; omega) (.int .i64 0) (.int .i64 0) (.string ⟨#[]⟩) (.string ⟨#[]⟩) (.int .i64 0) (.int .i64 9))
     have s6 := cells6 HF.out.2
     go_wp2_with fail
     exact bodyPost_ret (v := .agg #[.int .i64 0, .int .i64 0, .string ⟨#[]⟩, .string ⟨#[]⟩, .int .i64 0, .int .i64 9]) (by simp [results, Tryz.results39, go_sem, s6.1, s6.2.1, s6.2.2.1, s6.2.2.2.1, s6.2.2.2.2.1, s6.2.2.2.2.2]) rfl ⟨by rw [HE.out], HF.out.1⟩
    ·rw [if_neg h9] at HA
     have HE := HA
     have h9' : ¬ ((8000 : Int) < L.size) := by omega
     have h9D : decide ((8000 : Int) < L.size) = false := by simp; omega
     have fk := fun o => frozen_of_row w8 gk o _ _ (C8.out.get 2 rfl)
     have X9 := hideK (kB_set3 (C8.out.get 2 rfl) L)
     have C9 : Hid (Cx w (w8.setCell ⟨gk, 3, none⟩ (.string L)) [(gk + 1 + 1, .cells #[.int .i64 0, .int .i64 0, .string ⟨#[]⟩, .string ⟨#[]⟩, .int .i64 0, .int .i64 0] 36)]) := Cx.set ⟨C8.out.low, fun x hx => C8.out.blk x (by rw [List.mem_singleton.1 hx]; exact List.mem_cons_self)⟩ (by have := HGK.out; omega) (fun x hx => by rw [List.mem_singleton.1 hx]; show gk + 1 + 1 ≠ gk; omega) 3 _
     go_upto_region 9 with fail
     generalize w8.setCell ⟨gk, 3, none⟩ (.string L) = W9 at X9 C9 ⊢
     clear C8 k0 k1 k2 k3 k4 fk
     obtain ⟨k0, k1, k2, k3, k4⟩ := k_cells X9.out
     obtain ⟨q0, q1, q2, q3, q4, q5⟩ := cells6 (C9.out.get 0 rfl)
     have ff := fun o => frozen_of_row W9 (gk + 1 + 1) o _ _ (C9.out.get 0 rfl)
     have HF := hideK (ans6 (C9.out.get 0 rfl) C9.out.low (by have := HGK.out; omega) (.int .i64 z) (.int .i64 b) (.string r) (.string L) (.int .i64 y) (.int .i64 0))
     have s6 := cells6 HF.out.2
     go_wp2_with fail
     exact bodyPost_ret (v := .agg #[.int .i64 z, .int .i64 b, .string r, .string L, .int .i64 y, .int .i64 0]) (by simp [results, Tryz.results39, go_sem, s6.1, s6.2.1, s6.2.2.1, s6.2.2.2.1, s6.2.2.2.2.1, s6.2.2.2.2.2]) rfl ⟨by rw [HE.out], HF.out.1⟩
 ·have h20' : (20 : Int) < n := by omega
  rw [HLG.out (by omega), if_pos rfl] at HA
  have HE := HA
  clear HFT HTX HRW HLG
  obtain ⟨q0, q1, q2, q3, q4, q5⟩ := cells6 (C0.out.get 0 rfl)
  have ff := fun o => frozen_of_row W0 (gk + 1 + 1) o _ _ (C0.out.get 0 rfl)
  have HF := hideK (ans6 (C0.out.get 0 rfl) C0.out.low (by have := HGK.out; omega) (.int .i64 0) (.int .i64 0) (.string ⟨#[]⟩) (.string ⟨#[]⟩) (.int .i64 0) (.int .i64 5))
  have s6 := cells6 HF.out.2
  go_wp2_with fail
  exact bodyPost_ret (v := .agg #[.int .i64 0, .int .i64 0, .string ⟨#[]⟩, .string ⟨#[]⟩, .int .i64 0, .int .i64 5]) (by simp [results, Tryz.results39, go_sem, s6.1, s6.2.1, s6.2.2.1, s6.2.2.2.1, s6.2.2.2.2.1, s6.2.2.2.2.2]) rfl ⟨by rw [HE.out], HF.out.1⟩
theorem addV_size {fit : Rec → Bool} {z b : Int} {r s : ByteArray} {y : Int} {x : Rec} (h : 8000 < x.2.1.size ∨ 400 < x.2.2.length) : addV fit z b r s y x = koV 0 0 ⟨#[]⟩ ⟨#[]⟩ 0 2 := if_pos h
theorem addV_form {fit : Rec → Bool} {z b : Int} {r s : ByteArray} {y : Int} {x : Rec} (h : ¬ (8000 < x.2.1.size ∨ 400 < x.2.2.length)) (hk : keepB fit z b r s y = false) : addV fit z b r s y x = koV 0 0 ⟨#[]⟩ ⟨#[]⟩ 0 1 := by
 unfold addV
 rw [if_neg h, if_pos hk]
theorem addV_add {fit : Rec → Bool} {z b : Int} {r s : ByteArray} {y : Int} {x : Rec} (h : ¬ (8000 < x.2.1.size ∨ 400 < x.2.2.length)) (hk : keepB fit z b r s y = true) : addV fit z b r s y x = addS fit z b r s y (allR fit s).1 x := by
 unfold addV addS
 rw [if_neg h, hk, if_neg (by decide)]
theorem addS_out (fit : Rec → Bool) (z b : Int) (r s : ByteArray) (y : Int) (out : List Rec) (x : Rec) : ∃ z2 b2 r2 s2 y2 c2, addS fit z b r s y out x = koV z2 b2 r2 s2 y2 c2 := by
 unfold addS
 split
 ·exact ⟨_, _, _, _, _, _, rfl⟩
 ·split
  ·exact ⟨_, _, _, _, _, _, rfl⟩
  ·split
   ·exact ⟨_, _, _, _, _, _, rfl⟩
   ·exact ⟨_, _, _, _, _, _, rfl⟩
set_option maxRecDepth 100000 in
set_option maxHeartbeats 4000000 in
theorem keepAdd_spec (fit : Rec → Bool) (z b : Int) (r s : ByteArray) (y : Int) (x : MR) (w : World) (hs : s.size ≤ 1048576) (hpl : x.1.2.2.length ≤ 1048576) (hp : ∃ a cap, x.2 = .slice a x.1.2.2.length cap ∧ x.1.2.2.length ≤ cap ∧ Strs w w.heap.size a x.1.2.2) (hf : rightB z b r = true → FitS fit z b r w) (hff : FitF fit) :
  Calls Tryz.prog 14 #[kV z b r s y, .int .i64 x.1.1, .string x.1.2.1, x.2] w fun e w' => e = .returned (addV fit z b r s y x.1) ∧ Below w.heap.size w w' := by
 obtain ⟨⟨i, t, p⟩, xv⟩ := x
 obtain ⟨a, cap, hv, hc, hst⟩ := hp
 dsimp only at hpl hv hc hst ⊢
 subst hv
 obtain ⟨n, hn⟩ : ∃ n, n = p.length := ⟨_, rfl⟩
 have C0 := hideK (((Cx.nil w).new (kB z b r s y)).new koZ)
 simp only [World.size_alloc] at C0
 have HS2 := hideK (addV_size (fit := fit) (z := z) (b := b) (r := r) (s := s) (y := y) (x := (i, t, p)))
 have HF1 := hideK (addV_form (fit := fit) (z := z) (b := b) (r := r) (s := s) (y := y) (x := (i, t, p)))
 have HAD := hideK (addV_add (fit := fit) (z := z) (b := b) (r := r) (s := s) (y := y) (x := (i, t, p)))
 generalize addV fit z b r s y (i, t, p) = A at HS2 HF1 HAD ⊢
 have HR := hideK (fun W (h : Below w.heap.size w W) => keepRight_spec fit z b r s y W hs (fun hr => (hf hr).later h))
 have HAL : Hid (∀ W, keepB fit z b r s y = true → Below w.heap.size w W → Calls Tryz.prog 35 #[lV z b r, .string s] W fun e w' => AllOut fit s W.heap.size e w' ∧ Below W.heap.size W w') := fun W hk h => l08All_any fit z b r s W hs ((hf (by have := (keepB_yes hk).1; unfold mayB at this; simp only [Bool.and_eq_true] at this; exact this.1)).later h)
 have HAD2 : Hid (∀ W base v m, keepB fit z b r s y = true → t.size ≤ 8000 → Below w.heap.size w W → RowQ W base v m → m.length ≤ 1048576 → Calls Tryz.prog 39 #[kV z b r s y, v, .agg #[.int .i64 i, .string t, .slice a p.length cap]] W fun e w' => e = .returned (addS fit z b r s y (recs m) (i, t, p)) ∧ Below W.heap.size W w') := fun W base v m hk h8 h hrow hm => by
  have h1 := (keepB_yes hk).1
  unfold mayB at h1
  simp only [Bool.and_eq_true, decide_eq_true_eq] at h1
  exact l08Add_any fit z b r s y base v m ((i, t, p), .slice a p.length cap) W h1.2 hm hrow h8 hpl ⟨a, cap, rfl, hc, (hst.below h).mono h.size⟩ ((hf h1.1).later h) hff
 dsimp only at HS2 HF1 HAD
 rw [← hn] at hpl hc HS2 HF1 HAD HAD2 ⊢
 unfold AllOut lV at HAL
 unfold kV at HR HAD2 ⊢
 unfold kB koZ at C0
 unfold koV at HS2 HF1
 clear hst hf hff hn
 go_enter Tryz.func14, Tryz.ntmps14
 go_upto_region 1 with fail
 generalize (w.alloc _).alloc _ = W0 at C0 ⊢
 generalize hgk : w.heap.size = gk at C0 ⊢
 have HGK := hideK hgk
 clear hgk
 by_cases h8 : t.size ≤ 8000
 ·have h8' : ¬ ((8000 : Int) < t.size) := by omega
  have h8D : decide ((8000 : Int) < t.size) = false := by simp; omega
  by_cases h4 : n ≤ 400
  ·have h4' : ¬ ((400 : Int) < n) := by omega
   have h4D : decide ((400 : Int) < (n : Int)) = false := by simp; omega
   have HF2 := hideK (HF1.out (by omega))
   have HAD3 := hideK (HAD.out (by omega))
   clear HS2 HF1 HAD
   obtain ⟨k0, k1, k2, k3, k4⟩ := k_cells (C0.out.get 1 rfl)
   go_wp2_with fail
   refine (HR.out _ C0.out.low).mono ?_
   rintro e w1 ⟨rfl, hb⟩
   have C1 := hideK (C0.out.call hb)
   clear hb C0 HR k0 k1 k2 k3 k4
   obtain ⟨k0, k1, k2, k3, k4⟩ := k_cells (C1.out.get 1 rfl)
   cases hk : keepB fit z b r s y with
   | false =>
    have HE := hideK (HF2.out hk)
    clear hk HF2 HAD3 HAL HAD2
    obtain ⟨q0, q1, q2, q3, q4, q5⟩ := cells6 (C1.out.get 0 rfl)
    have ff := fun o => frozen_of_row w1 (gk + 1) o _ _ (C1.out.get 0 rfl)
    have HF := hideK (ans6 (C1.out.get 0 rfl) C1.out.low (by have := HGK.out; omega) (.int .i64 0) (.int .i64 0) (.string ⟨#[]⟩) (.string ⟨#[]⟩) (.int .i64 0) (.int .i64 1))
    have s6 := cells6 HF.out.2
    go_wp2_with fail
    exact bodyPost_ret (v := .agg #[.int .i64 0, .int .i64 0, .string ⟨#[]⟩, .string ⟨#[]⟩, .int .i64 0, .int .i64 1]) (by simp [results, Tryz.results14, go_sem, s6.1, s6.2.1, s6.2.2.1, s6.2.2.2.1, s6.2.2.2.2.1, s6.2.2.2.2.2]) rfl ⟨by rw [HE.out], HF.out.1⟩
   | true =>
    have HE0 := hideK (HAD3.out hk)
    have HAL1 := hideK (fun W => HAL.out W hk)
    have HAD4 := hideK (fun W base v m => HAD2.out W base v m hk h8)
    clear hk HF2 HAD3 HAL HAD2
    go_wp2_with fail
    refine (HAL1.out _ C1.out.low).mono ?_
    rintro q w3 ⟨⟨v, m, rfl, h1, h2, h3⟩, hb⟩
    have RW := hideK h2
    obtain ⟨a1, cap1, hv1, _⟩ := h2.one
    subst hv1
    have C3 := hideK (C1.out.call hb)
    rw [← h1] at HE0
    have hml : m.length ≤ 1048576 := by
     have h5 := allR_many fit s
     have h6 := allR_le fit s
     rw [← h1, recs_length] at h5
     omega
    clear hb h1 h2 h3 C1 k0 k1 k2 k3 k4 HAL1
    obtain ⟨k0, k1, k2, k3, k4⟩ := k_cells (C3.out.get 1 rfl)
    have HAD5 := hideK (HAD4.out w3 _ _ m C3.out.low RW.out hml)
    obtain ⟨z2, b2, r2, s2, y2, c2, hx⟩ := addS_out fit z b r s y (recs m) (i, t, p)
    rw [hx] at HAD5 HE0
    unfold koV at HAD5 HE0
    have HE := HE0
    clear hx HAD4 RW
    go_wp2_with fail
    refine HAD5.out.mono ?_
    rintro q w4 ⟨rfl, hb⟩
    have C4 := hideK (C3.out.call hb)
    clear hb C3 k0 k1 k2 k3 k4 HAD5
    obtain ⟨q0, q1, q2, q3, q4, q5⟩ := cells6 (C4.out.get 0 rfl)
    have ff := fun o => frozen_of_row w4 (gk + 1) o _ _ (C4.out.get 0 rfl)
    have HF := hideK (ans6 (C4.out.get 0 rfl) C4.out.low (by have := HGK.out; omega) (.int .i64 z2) (.int .i64 b2) (.string r2) (.string s2) (.int .i64 y2) (.int .i64 c2))
    have s6 := cells6 HF.out.2
    go_wp2_with fail
    exact bodyPost_ret (v := .agg #[.int .i64 z2, .int .i64 b2, .string r2, .string s2, .int .i64 y2, .int .i64 c2]) (by simp [results, Tryz.results14, go_sem, s6.1, s6.2.1, s6.2.2.1, s6.2.2.2.1, s6.2.2.2.2.1, s6.2.2.2.2.2]) rfl ⟨by rw [HE.out], HF.out.1⟩
  ·have h4' : (400 : Int) < n := by omega
   have HE := hideK (HS2.out (.inr (by omega)))
   clear HR HS2 HF1 HAD HAL HAD2
   obtain ⟨q0, q1, q2, q3, q4, q5⟩ := cells6 (C0.out.get 0 rfl)
   have ff := fun o => frozen_of_row W0 (gk + 1) o _ _ (C0.out.get 0 rfl)
   have HF := hideK (ans6 (C0.out.get 0 rfl) C0.out.low (by have := HGK.out; omega) (.int .i64 0) (.int .i64 0) (.string ⟨#[]⟩) (.string ⟨#[]⟩) (.int .i64 0) (.int .i64 2))
   have s6 := cells6 HF.out.2
   go_wp2_with fail
   exact bodyPost_ret (v := .agg #[.int .i64 0, .int .i64 0, .string ⟨#[]⟩, .string ⟨#[]⟩, .int .i64 0, .int .i64 2]) (by simp [results, Tryz.results14, go_sem, s6.1, s6.2.1, s6.2.2.1, s6.2.2.2.1, s6.2.2.2.2.1, s6.2.2.2.2.2]) rfl ⟨by rw [HE.out], HF.out.1⟩
 ·have h8' : (8000 : Int) < t.size := by omega
  have HE := hideK (HS2.out (.inl (by omega)))
  clear HR HS2 HF1 HAD HAL HAD2
  obtain ⟨q0, q1, q2, q3, q4, q5⟩ := cells6 (C0.out.get 0 rfl)
  have ff := fun o => frozen_of_row W0 (gk + 1) o _ _ (C0.out.get 0 rfl)
  have HF := hideK (ans6 (C0.out.get 0 rfl) C0.out.low (by have := HGK.out; omega) (.int .i64 0) (.int .i64 0) (.string ⟨#[]⟩) (.string ⟨#[]⟩) (.int .i64 0) (.int .i64 2))
  have s6 := cells6 HF.out.2
  go_wp2_with fail
  exact bodyPost_ret (v := .agg #[.int .i64 0, .int .i64 0, .string ⟨#[]⟩, .string ⟨#[]⟩, .int .i64 0, .int .i64 2]) (by simp [results, Tryz.results14, go_sem, s6.1, s6.2.1, s6.2.2.1, s6.2.2.2.1, s6.2.2.2.2.1, s6.2.2.2.2.2]) rfl ⟨by rw [HE.out], HF.out.1⟩
end Go.Proofs.YtmeohaiidmmgkaaGreatDoor.Kp


/- The laws' own copy of a row of texts. -/
namespace Go.Proofs.YtmeohaiidmmgkaaGreatDoor.St
open Go.RowKit
set_option maxRecDepth 100000 in
set_option maxHeartbeats 1000000 in
theorem toStr_any (a : Option Addr) (cap : Nat) (l : List ByteArray) (w : World) (h : Strs w w.heap.size a l) (hn : l.length ≤ 1048576) :
    Calls Tryz.prog 15 #[.slice a l.length cap] w fun e w' => e = .returned (.slice (some ⟨w.heap.size, 0, none⟩) l.length l.length) ∧ IsS w' w.heap.size 9 l ∧ Below w.heap.size w w' := by
  obtain ⟨i0, hi, hz0, hz1, hz2⟩ := info_parts Tryz.infoS9
  have HS := hideT h
  clear h
  obtain ⟨n, hln⟩ : ∃ n, n = l.length := ⟨_, rfl⟩
  have HLN := hideT hln
  rw [← hln] at hn ⊢
  clear hln
  go_enter Tryz.func15, Tryz.ntmps15
  go_wp2_with (at_make; refine wpList_make_full _ rfl (.tmp 6) (.tmp 6) 33 rfl w.heap.size 9 i0 (.string ⟨#[]⟩) 1 Tryz.underlying33 hi hz0 hz1 .i64 .i64 _ _ n rfl rfl (by simp) (by simp) (by rw [hz2]; omega) (by unfold maxLen; omega) (Nat.le_refl _) ?_; intro w1 hown1 hgrow1; have HR := hideT (made_strs hown1); have HB := hideT ((Below.refl w.heap.size w).grown hgrow1 (Nat.le_refl _) (by simp)); clear hown1 hgrow1)
  go_loopw [4] (fun i wr => ∃ k : Nat, i = .int .i64 k ∧ k ≤ n ∧ IsS wr w.heap.size 9 (mid l k) ∧ Below w.heap.size w wr) (fun i _ => n - (intOf i).toNat)
  case atStart => exact ⟨0, rfl, by omega, by rw [mid_zero, ← HLN.out]; exact HR.out, HB.out⟩
  case round =>
    obtain ⟨k, rfl, hk, h1, hbel⟩ := hrel
    have G1 := hideT h1
    have GB := hideT hbel
    by_cases hlt : k < n
    · have hkl : k < l.length := by rw [← HLN.out]; exact hlt
      obtain ⟨b, off, rfl, hb, hc⟩ := (HS.out.below hbel).some (by omega)
      have ci := hc k hkl
      have HM := hideT (mid_next l k hkl)
      have cf := h1.frozen k
      have ce : ∃ v, wr.cell? ⟨w.heap.size, k, none⟩ = some (.string v) := ⟨_, h1.cell (j := k) (by rw [mid_length l k (by omega)]; exact hkl)⟩
      obtain ⟨v0, ce⟩ := ce
      obtain ⟨s, hs⟩ : ∃ s, s = l[k] := ⟨_, rfl⟩
      have HSE := hideT hs
      rw [← hs] at ci
      clear h1 hbel hc hs
      go_wp2_with fail
      go_roundw
      case rel => exact ⟨k + 1, by go_num, by omega, by rw [← HM.out, ← HSE.out]; exact G1.out.set k s, GB.out.setCell (Nat.le_refl _) _⟩
      case measure => simp [intOf]; omega
    · have HE : Hid (mid l k = l) := by
        unfold Hid
        rw [show k = l.length by have := HLN.out; omega]
        exact mid_all l
      clear h1 hbel
      go_wp2_with fail
      go_ret
      exact ⟨rfl, by rw [← HE.out]; exact G1.out, GB.out⟩
end Go.Proofs.YtmeohaiidmmgkaaGreatDoor.St


/- The laws' own look whether two rows of texts are alike. -/
namespace Go.Proofs.YtmeohaiidmmgkaaGreatDoor.St
open Go.RowKit
set_option maxRecDepth 100000 in
set_option maxHeartbeats 1000000 in
/-- two rows of the same texts are alike -/
theorem eq_any (a b : Option Addr) (cap cap' : Nat) (l : List ByteArray) (w : World) (B : Nat) (ha : Strs w B a l) (hb : Strs w B b l) (hn : l.length ≤ 1048576) :
  Calls Tryz.prog 18 #[.slice a l.length cap, .slice b l.length cap'] w fun e w' => e = .returned (.bool true) ∧ Below w.heap.size w w' := by
 have HA := hideT ha
 have HB := hideT hb
 clear ha hb
 obtain ⟨n, hln⟩ : ∃ n, n = l.length := ⟨_, rfl⟩
 have HLN := hideT hln
 rw [← hln] at hn ⊢
 clear hln
 go_enter Tryz.func18, Tryz.ntmps18
 go_wp2_with fail
 go_loopw [5] (fun i wr => ∃ k : Nat, i = .int .i64 k ∧ k ≤ n ∧ (∀ p : Addr, wr.cell? p = w.cell? p) ∧ Below w.heap.size w wr) (fun i _ => n - (intOf i).toNat)
 case atStart => exact ⟨0, rfl, by omega, fun _ => rfl, Below.refl _ _⟩
 case round =>
  obtain ⟨k, rfl, hk, hcell, hbel⟩ := hrel
  have HC := hideT hcell
  have GB := hideT hbel
  by_cases hlt : k < n
  ·have hkl : k < l.length := by rw [← HLN.out]; exact hlt
   obtain ⟨b1, off1, rfl, _, hc1⟩ := HA.out.some (by omega)
   obtain ⟨b2, off2, rfl, _, hc2⟩ := HB.out.some (by omega)
   have c1 := (hcell _).trans (hc1 k hkl)
   have c2 := (hcell _).trans (hc2 k hkl)
   obtain ⟨s, hs⟩ : ∃ s, s = l[k] := ⟨_, rfl⟩
   rw [← hs] at c1 c2
   clear hc1 hc2 hcell hbel hs
   go_wp2_with fail
   go_region
   all_goals (try go_wp2_with fail)
   all_goals go_roundw
   case rel => exact ⟨k + 1, by go_num, by omega, fun p => HC.out p, GB.out.drew⟩
   case measure => simp [intOf]; omega
  ·clear hcell hbel
   go_wp2_with fail
   go_ret
   exact ⟨rfl, GB.out⟩
end Go.Proofs.YtmeohaiidmmgkaaGreatDoor.St


/- The laws' own helpers on rows of texts: the budget of their sizes. -/
namespace Go.Proofs.YtmeohaiidmmgkaaGreatDoor.St
open Go.RowKit
end Go.Proofs.YtmeohaiidmmgkaaGreatDoor.St

