/- Texts put together: GetTop2, OpenWalks, SoInsI, SoMrgAI. -/
import Derived.Test.YtjdlgpnhkfdehaaGreatDoorBu24
import Derived.Test.YtjdlgpnhkfdehaaGreatDoorBu17
import Derived.Test.YtjdlgpnhkfdehaaGreatDoorSortPlain2
/- What impl.CodeGet answers; the specification's look for the next symbol. -/
namespace Go.Proofs.YtjdlgpnhkfdehaaGreatDoor.Bi
open Go.RowKit Go.Maps
open Go.Proofs.YtjdlgpnhkfdehaaGreatDoor.In (Ints IsI OwnIn)
open Go.Proofs.YtjdlgpnhkfdehaaGreatDoor.St (IsS Strs)
theorem nil_in (w : World) (lo hi : Nat) : OwnIn w lo hi (.slice none 0 0) [] := .inl ⟨rfl, rfl⟩
set_option maxRecDepth 100000 in
set_option maxHeartbeats 2000000 in
theorem get_impl (l : List Int) (t : ByteArray) (m : Int) (a : Option Addr) (cap : Nat) (w : World) (hl : Ints w w.heap.size a l) (hn : l.length ≤ 1048576) (ht : t.size ≤ 1048576) :
    Calls Tryz.prog 214 #[.slice a l.length cap, .string t, .int .i64 m] w fun e w' => ∃ v, e = .returned (.agg #[v, .int .i64 (getR l t m).2.1, .int .i64 (getR l t m).2.2]) ∧ OwnIn w' w.heap.size w'.heap.size v (getR l t m).1 ∧ Below w.heap.size w w' := by
  by_cases h4 : 400 < l.length
  · rw [getR_size (Or.inl h4)]
    clear hl
    generalize l.length = n at hn h4 ⊢
    go_enter Tryz.func214, Tryz.ntmps214
    go_wp2_with fail
    refine bodyPost_ret (v := .agg #[.slice none 0 0, .int .i64 0, .int .i64 2]) (by simp [results, Tryz.results214, go_sem]) rfl ⟨.slice none 0 0, rfl, nil_in _ _ _, (Below.refl _ _).alloc (Nat.le_refl _) _⟩
  · have hd4 : decide (400 < (l.length : Int)) = false := decide_eq_false (by omega)
    by_cases h8 : 8000 < t.size
    · rw [getR_size (Or.inr h8)]
      clear hl
      generalize l.length = n at hn h4 hd4 ⊢
      go_enter Tryz.func214, Tryz.ntmps214
      go_wp2_with fail
      refine bodyPost_ret (v := .agg #[.slice none 0 0, .int .i64 0, .int .i64 2]) (by simp [results, Tryz.results214, go_sem]) rfl ⟨.slice none 0 0, rfl, nil_in _ _ _, (Below.refl _ _).alloc (Nat.le_refl _) _⟩
    · have hd8 : decide (8000 < (t.size : Int)) = false := decide_eq_false (by omega)
      have hno : ¬ (400 < l.length ∨ 8000 < t.size) := by omega
      have hl0 := (hl.below ((Below.refl w.heap.size w).alloc (Nat.le_refl _) (.cells #[.slice none 0 0, .int .i64 0, .int .i64 0] 139))).mono (by simp : w.heap.size ≤ (w.alloc (.cells #[.slice none 0 0, .int .i64 0, .int .i64 0] 139)).heap.size)
      have HWH := hideB (whole_impl l a cap _ _ hl0 hn)
      have HGO := hideB (good_impl t (w.alloc (.cells #[.slice none 0 0, .int .i64 0, .int .i64 0] 139)) ht)
      clear hl0
      cases hw : whole l with
      | false =>
        rw [getR_form hno (Or.inl hw)]
        rw [hw] at HWH
        clear hl hno
        generalize l.length = n at hn h4 hd4 HWH ⊢
        go_enter Tryz.func214, Tryz.ntmps214
        go_wp2_with fail
        refine HWH.out.mono ?_
        rintro e w' ⟨rfl, hw'⟩
        subst w'
        go_wp2_with fail
        refine bodyPost_ret (v := .agg #[.slice none 0 0, .int .i64 0, .int .i64 1]) (by simp [results, Tryz.results214, go_sem]) rfl ⟨.slice none 0 0, rfl, nil_in _ _ _, (Below.refl _ _).alloc (Nat.le_refl _) _⟩
      | true =>
        cases hg : good t with
        | false =>
          rw [getR_form hno (Or.inr (Or.inl hg))]
          rw [hw] at HWH
          rw [hg] at HGO
          clear hl hno hw
          generalize l.length = n at hn h4 hd4 HWH ⊢
          go_enter Tryz.func214, Tryz.ntmps214
          go_wp2_with fail
          refine HWH.out.mono ?_
          rintro e w' ⟨rfl, hw'⟩
          subst w'
          go_wp2_with fail
          refine HGO.out.mono ?_
          rintro e w' ⟨rfl, hw'⟩
          subst w'
          go_wp2_with fail
          refine bodyPost_ret (v := .agg #[.slice none 0 0, .int .i64 0, .int .i64 1]) (by simp [results, Tryz.results214, go_sem]) rfl ⟨.slice none 0 0, rfl, nil_in _ _ _, (Below.refl _ _).alloc (Nat.le_refl _) _⟩
        | true =>
          by_cases hm : m < 0
          · rw [getR_form hno (Or.inr (Or.inr (Or.inl hm)))]
            rw [hw] at HWH
            rw [hg] at HGO
            clear hl hno hw hg
            generalize l.length = n at hn h4 hd4 HWH ⊢
            go_enter Tryz.func214, Tryz.ntmps214
            go_wp2_with fail
            refine HWH.out.mono ?_
            rintro e w' ⟨rfl, hw'⟩
            subst w'
            go_wp2_with fail
            refine HGO.out.mono ?_
            rintro e w' ⟨rfl, hw'⟩
            subst w'
            go_wp2_with fail
            refine bodyPost_ret (v := .agg #[.slice none 0 0, .int .i64 0, .int .i64 1]) (by simp [results, Tryz.results214, go_sem]) rfl ⟨.slice none 0 0, rfl, nil_in _ _ _, (Below.refl _ _).alloc (Nat.le_refl _) _⟩
          · by_cases hm4 : 400 < m
            · rw [getR_form hno (Or.inr (Or.inr (Or.inr hm4)))]
              have hdm : decide (m < 0) = false := decide_eq_false hm
              rw [hw] at HWH
              rw [hg] at HGO
              clear hl hno hw hg
              generalize l.length = n at hn h4 hd4 HWH ⊢
              go_enter Tryz.func214, Tryz.ntmps214
              go_wp2_with fail
              refine HWH.out.mono ?_
              rintro e w' ⟨rfl, hw'⟩
              subst w'
              go_wp2_with fail
              refine HGO.out.mono ?_
              rintro e w' ⟨rfl, hw'⟩
              subst w'
              go_wp2_with fail
              refine bodyPost_ret (v := .agg #[.slice none 0 0, .int .i64 0, .int .i64 1]) (by simp [results, Tryz.results214, go_sem]) rfl ⟨.slice none 0 0, rfl, nil_in _ _ _, (Below.refl _ _).alloc (Nat.le_refl _) _⟩
            · obtain ⟨k, rfl⟩ : ∃ k : Nat, m = k := ⟨m.toNat, by omega⟩
              rw [getR_in hno hw hg (by omega)]
              exact get_yes l t k a cap w hl h4 h8 hw hg (by omega)
end Go.Proofs.YtjdlgpnhkfdehaaGreatDoor.Bi


/- The walks of both BitsOpen, and of the law. -/
namespace Go.Proofs.YtjdlgpnhkfdehaaGreatDoor.Bi
open Go.RowKit
open Go.Proofs.YtjdlgpnhkfdehaaGreatDoor.Sh
open Go.Proofs.YtjdlgpnhkfdehaaGreatDoor.Nu (ret_strJ)
set_option maxRecDepth 100000 in
set_option maxHeartbeats 2000000 in
theorem open_yes (t : ByteArray) (m : Nat) (w : World) (ht : ¬ 8000 < t.size) (hm : m ≤ 8 * t.size) :
    Calls Tryz.prog 213 #[.string t, .int .i64 m] w fun e w' => e = .returned (.string (openV t m)) ∧ Below w.heap.size w w' := by
  obtain ⟨i0, hi, hz0, hz1, hz2⟩ := info_parts Nu.Tryz.infoJ5
  have hd8 : decide (8000 < (t.size : Int)) = false := decide_eq_false (by omega)
  have hd0 : decide ((m : Int) < 0) = false := decide_eq_false (by omega)
  have hd1 : decide (8 * (t.size : Int) < m) = false := decide_eq_false (by omega)
  go_enter Tryz.func213, Tryz.ntmps213
  go_wp2_with (at_make; refine wpList_make_full _ rfl (.tmp 21) (.tmp 21) 22 rfl w.heap.size 5 i0 (.int .u8 0) 1 Tryz.underlying22 hi hz0 hz1 .i64 .i64 _ _ m rfl rfl (by simp) (by simp) (by rw [hz2]; omega) (by unfold maxLen; omega) (Nat.le_refl _) ?_; intro w1 hown1 hgrow1; have HR := hideB (made_row hown1); have HB := hideB ((Below.refl w.heap.size w).grown hgrow1 (Nat.le_refl _) (by simp)); clear hown1 hgrow1)
  go_loopw [24] (fun i wr => ∃ k : Nat, i = .int .i64 k ∧ k ≤ m ∧ IsB wr w.heap.size 5 .u8 m (fun j => (opK t k j : Nat)) ∧ Below w.heap.size w wr) (fun i _ => m - (intOf i).toNat)
  case atStart => exact ⟨0, rfl, by omega, IsB.congr HR.out (fun j hj => by rw [opK_zero]; rfl), HB.out⟩
  case round =>
    obtain ⟨k, rfl, hk, hr, hbel⟩ := hrel
    have HR2 := hideB hr
    by_cases hlt : k < m
    · obtain ⟨q, hq⟩ : ∃ q : Nat, q = k / 8 := ⟨_, rfl⟩
      have hqi : (k : Int) / 8 = q := by omega
      have hqt : q < t.size := by omega
      obtain ⟨y, b0, hy⟩ := byte_at t q hqt
      obtain ⟨s, hs⟩ : ∃ s : Nat, s = 7 - k % 8 := ⟨_, rfl⟩
      have hsi : (7 : Int) - (k : Int) % 8 = s := by omega
      have ce := hr.cell (j := k) (by omega)
      have cf := hr.frozen k
      have hy2 : (y.toNat : Int) < 256 := by have := y.toNat_lt; omega
      have HO := hideB (bitOf_any y.toNat s wr (by omega))
      have HV : Hid (((bitB y.toNat s : Nat) : Int) = ((bitB (bt t (k / 8)) (7 - k % 8) : Nat) : Int)) := by
        unfold Hid
        rw [hy, hs, hq]
      clear hr hy hs hq
      go_wp2_with fail
      refine HO.out.mono ?_
      rintro e w' ⟨rfl, hw⟩
      subst w'
      go_wp2_with fail
      go_roundw
      case rel =>
        exact ⟨k + 1, by go_num, by omega, IsB.congr (HR2.out.set k _) (fun j hj => opK_next t k j _ HV.out), hbel.setCell (Nat.le_refl _) _⟩
      case measure => simp [intOf]; omega
    · obtain rfl : k = m := by omega
      have hcv := hr.str (P := Tryz.prog) (src := 22) (dst := 9) k k (Nat.le_refl _) (fun j _ => opK_lt t k j) Tryz.underlying22 Tryz.underlying5 Tryz.underlying9
      rw [opK_all] at hcv
      clear hr
      go_wp2_with fail
      go_ret
      exact ⟨rfl, hbel⟩
set_option maxHeartbeats 1000000 in
theorem open_impl (t : ByteArray) (m : Int) (w : World) (ht : t.size ≤ 1048576) :
    Calls Tryz.prog 213 #[.string t, .int .i64 m] w fun e w' => e = .returned (.string (openR t m)) ∧ Below w.heap.size w w' := by
  by_cases h : 8000 < t.size
  · have HE := hideB (openR_no t m (Or.inl h))
    go_enter Tryz.func213, Tryz.ntmps213
    go_wp2_with fail
    go_ret
    exact ⟨ret_strJ HE.out.symm, Below.refl _ _⟩
  · have hd8 : decide (8000 < (t.size : Int)) = false := decide_eq_false (by omega)
    by_cases h0 : m < 0
    · have HE := hideB (openR_no t m (Or.inr (Or.inl h0)))
      go_enter Tryz.func213, Tryz.ntmps213
      go_wp2_with fail
      go_ret
      exact ⟨ret_strJ HE.out.symm, Below.refl _ _⟩
    · by_cases h1 : 8 * (t.size : Int) < m
      · have HE := hideB (openR_no t m (Or.inr (Or.inr h1)))
        have hd0 : decide (m < 0) = false := decide_eq_false (by omega)
        go_enter Tryz.func213, Tryz.ntmps213
        go_wp2_with fail
        go_ret
        exact ⟨ret_strJ HE.out.symm, Below.refl _ _⟩
      · obtain ⟨k, rfl⟩ : ∃ k : Nat, m = k := ⟨m.toNat, by omega⟩
        rw [openR_yes t k h (by omega)]
        exact open_yes t k w h (by omega)
theorem lit8 (W : World) (t : TypeId) (r : Nat) (h : r < 8) : ∃ p : Int, (W.alloc (Obj.cells #[Value.int IntKind.i64 128, Value.int IntKind.i64 64, Value.int IntKind.i64 32, Value.int IntKind.i64 16, Value.int IntKind.i64 8, Value.int IntKind.i64 4, Value.int IntKind.i64 2, Value.int IntKind.i64 1] t)).cell? ⟨W.heap.size, r, none⟩ = some (.int .i64 p) ∧ p = (2 : Int) ^ (7 - r) ∧ 0 < p ∧ p ≤ 128 := by
  have h8 : r = 0 ∨ r = 1 ∨ r = 2 ∨ r = 3 ∨ r = 4 ∨ r = 5 ∨ r = 6 ∨ r = 7 := by omega
  rcases h8 with rfl | rfl | rfl | rfl | rfl | rfl | rfl | rfl
  · exact ⟨128, (cell_of_row _ _ 0 _ t (0, 0) (heap_alloc_last W _)).trans rfl, by decide, by decide⟩
  · exact ⟨64, (cell_of_row _ _ 1 _ t (0, 0) (heap_alloc_last W _)).trans rfl, by decide, by decide⟩
  · exact ⟨32, (cell_of_row _ _ 2 _ t (0, 0) (heap_alloc_last W _)).trans rfl, by decide, by decide⟩
  · exact ⟨16, (cell_of_row _ _ 3 _ t (0, 0) (heap_alloc_last W _)).trans rfl, by decide, by decide⟩
  · exact ⟨8, (cell_of_row _ _ 4 _ t (0, 0) (heap_alloc_last W _)).trans rfl, by decide, by decide⟩
  · exact ⟨4, (cell_of_row _ _ 5 _ t (0, 0) (heap_alloc_last W _)).trans rfl, by decide, by decide⟩
  · exact ⟨2, (cell_of_row _ _ 6 _ t (0, 0) (heap_alloc_last W _)).trans rfl, by decide, by decide⟩
  · exact ⟨1, (cell_of_row _ _ 7 _ t (0, 0) (heap_alloc_last W _)).trans rfl, by decide, by decide⟩
theorem quo_pow (y s : Nat) (v : Int) (hv : v = (2 : Int) ^ s) : (48 + (y : Int) / v % 2) % 256 = ((bitB y s : Nat) : Int) := by
  subst hv
  rw [div_cast]
  unfold bitB
  omega
set_option maxRecDepth 100000 in
set_option maxHeartbeats 4000000 in
theorem openS_yes (t : ByteArray) (m : Nat) (w : World) (ht : ¬ 8000 < t.size) (hm : m ≤ 8 * t.size) :
    Calls Tryz.prog 126 #[.string t, .int .i64 m] w fun e w' => e = .returned (.string (openV t m)) ∧ Below w.heap.size w w' := by
  obtain ⟨i0, hi, hz0, hz1, hz2⟩ := info_parts Nu.Tryz.infoJ5
  have hd8 : decide (8000 < (t.size : Int)) = false := decide_eq_false (by omega)
  have HI := hideB (is_yes m 0 (8 * (t.size : Int)) w (by omega) (by omega))
  go_enter Tryz.func126, Tryz.ntmps126
  go_wp2_with fail
  refine HI.out.mono ?_
  rintro e w' ⟨rfl, hw⟩
  subst w'
  go_wp2_with (at_make; refine wpList_make_full _ rfl (.tmp 19) (.tmp 19) 22 rfl w.heap.size 5 i0 (.int .u8 0) 1 Tryz.underlying22 hi hz0 hz1 .i64 .i64 _ _ m rfl rfl (by simp) (by simp) (by rw [hz2]; omega) (by unfold maxLen; omega) (Nat.le_refl _) ?_; intro w1 hown1 hgrow1; have HR := hideB (made_row hown1); have HB := hideB ((Below.refl w.heap.size w).grown hgrow1 (Nat.le_refl _) (by simp)); clear hown1 hgrow1)
  go_loopw [6] (fun i wr => ∃ k : Nat, i = .int .i64 k ∧ k ≤ m ∧ IsB wr w.heap.size 5 .u8 m (fun j => (opK t k j : Nat)) ∧ Below w.heap.size w wr) (fun i _ => m - (intOf i).toNat)
  case atStart => exact ⟨0, rfl, by omega, IsB.congr HR.out (fun j hj => by rw [opK_zero]; rfl), HB.out⟩
  case round =>
    obtain ⟨k, rfl, hk, hr, hbel⟩ := hrel
    have HR2 := hideB hr
    have GB := hideB hbel
    have hsz := hbel.size
    clear hbel
    by_cases hlt : k < m
    · obtain ⟨q, hq⟩ : ∃ q : Nat, q = k / 8 := ⟨_, rfl⟩
      have hqi : (k : Int) / 8 = q := by omega
      have hqt : q < t.size := by omega
      obtain ⟨y, b0, hy⟩ := byte_at t q hqt
      have HY := hideB hy
      have HQ := hideB hq
      have ce : ∀ o, (wr.alloc o).cell? ⟨w.heap.size, k, none⟩ = some (.int .u8 ((opK t k k : Nat) : Int)) := fun o => (hr.alloc o).cell (by omega)
      have cf : ∀ o, (wr.alloc o).frozen? ⟨w.heap.size, k, none⟩ = false := fun o => (hr.alloc o).frozen k
      clear hr hy hq
      have hy2 : (y.toNat : Int) < 256 := by have := y.toNat_lt; omega
      obtain ⟨r, hr8⟩ : ∃ r : Nat, r = k % 8 := ⟨_, rfl⟩
      have hri : (k : Int) % 8 = r := by omega
      have hrl : r < 8 := by omega
      obtain ⟨p, hp, hp2, hp3⟩ := lit8 wr 2 r hrl
      have HV : Hid ((48 + (y.toNat : Int) / p % 2) % 256 = ((bitB (bt t (k / 8)) (7 - k % 8) : Nat) : Int)) := by
        unfold Hid
        rw [quo_pow y.toNat (7 - r) p hp2, ← hr8, HY.out, HQ.out]
      have HV2 : Hid (48 + (y.toNat : Int) / p % 2 = ((bitB (bt t (k / 8)) (7 - k % 8) : Nat) : Int)) := by
        unfold Hid
        rw [← HV.out]
        omega
      have hpz : (p == 0) = false := by rw [beq_eq_false_iff_ne]; omega
      have hq0 : 0 ≤ (y.toNat : Int) / p := Int.ediv_nonneg (by omega) (by omega)
      have hq1 : (y.toNat : Int) / p < 256 := Int.lt_of_le_of_lt (Int.ediv_le_self _ (by omega)) hy2
      clear hp2 hr8
      go_wp2_with fail
      go_region
      all_goals (try go_wp2_with fail)
      all_goals go_roundw
      case rel => exact ⟨k + 1, by go_num, by omega, IsB.congr (IsB.set (IsB.of_heap (w' := World.drew (World.alloc wr _)) (IsB.alloc HR2.out _) rfl) k _) (fun j hj => opK_next t k j _ (by first | exact HV.out | exact HV2.out)), Below.setCell (Below.drew (GB.out.alloc hsz _)) (Nat.le_refl _) _⟩
      case measure => simp [intOf]; omega
    · obtain rfl : k = m := by omega
      have hcv := hr.str (P := Tryz.prog) (src := 22) (dst := 9) k k (Nat.le_refl _) (fun j _ => opK_lt t k j) Tryz.underlying22 Tryz.underlying5 Tryz.underlying9
      rw [opK_all] at hcv
      clear hr
      go_wp2_with fail
      go_ret
      exact ⟨rfl, GB.out⟩
set_option maxHeartbeats 1000000 in
theorem open_spec (t : ByteArray) (m : Int) (w : World) (ht : t.size ≤ 1048576) :
    Calls Tryz.prog 126 #[.string t, .int .i64 m] w fun e w' => e = .returned (.string (openR t m)) ∧ Below w.heap.size w w' := by
  by_cases h : 8000 < t.size
  · have HE := hideB (openR_no t m (Or.inl h))
    go_enter Tryz.func126, Tryz.ntmps126
    go_wp2_with fail
    go_ret
    exact ⟨ret_strJ HE.out.symm, Below.refl _ _⟩
  · have hd8 : decide (8000 < (t.size : Int)) = false := decide_eq_false (by omega)
    by_cases h0 : m < 0 ∨ 8 * (t.size : Int) < m
    · have HE := hideB (openR_no t m (Or.inr h0))
      have HI := hideB (is_no m 0 (8 * (t.size : Int)) w h0)
      clear h0
      go_enter Tryz.func126, Tryz.ntmps126
      go_wp2_with fail
      refine HI.out.mono ?_
      rintro e w' ⟨rfl, hw⟩
      subst w'
      go_wp2_with fail
      go_ret
      exact ⟨ret_strJ HE.out.symm, Below.refl _ _⟩
    · obtain ⟨k, rfl⟩ : ∃ k : Nat, m = k := ⟨m.toNat, by omega⟩
      rw [openR_yes t k h (by omega)]
      exact openS_yes t k w h (by omega)
end Go.Proofs.YtjdlgpnhkfdehaaGreatDoor.Bi


/- The walk of a stable sort's insertion at places. -/
namespace Go.Proofs.YtjdlgpnhkfdehaaGreatDoor.So
open Go.RowKit Go.Sort Go.Proofs
set_option maxRecDepth 100000 in
set_option maxHeartbeats 2000000 in
theorem insertion_I (T : ByteArray) (cc : Nat) (blk cap a b : Nat) (d : Array Nat) (w : World) (hH : HoldsK encI 1 w blk 0 d) (hblk : blk < w.heap.size) (hab : a ≤ b) (hb : b ≤ d.size) (hsz : d.size ≤ 1048576) (hcap : Cap w cc T) (hcb0 : cc ≠ blk) (hbd : ∀ i, dF d i < T.size)
    (hrise : ∀ i j, a ≤ i → i < j → j < b → dF d i < dF d j) :
    Calls Tryz.prog 268 #[.slice (some ⟨blk, 0, none⟩) d.size cap, .int .i64 a, .int .i64 b, .func (.func 263) #[] #[.pointer (some ⟨cc, 0, none⟩)]] w fun e w' =>
      e = .returned (.tuple #[]) ∧ ∃ n d' os, w' = sortWorldK encI 1 w blk 0 n d' os ∧ d'.size = d.size ∧ PermF a b (dF d) (dF d') ∧ Ris (clI T) a b (dF d') := by
  have mixed := mixed
  have HST := hideO (world_self hH)
  have HH := hideO hH
  have HCP : Hid (∀ (m : Nat) (dk : Array Nat) (os : Array Obj), Cap (sortWorldK encI 1 w blk 0 m dk os) cc T) := fun m dk os => hcap.block (world_block m dk os hcap.lt hcb0)
  have HBD := hideO hbd
  clear hcap hcb0 hbd
  have HRI := hideO hrise
  clear hH hrise
  obtain ⟨z, hz⟩ : ∃ z, z = d.size := ⟨_, rfl⟩
  have HZ := hideO hz
  rw [← hz] at hb hsz ⊢
  clear hz
  by_cases hE : a = b
  · subst hE
    go_enter Tryz.func268, Tryz.ntmps268
    go_wp2_with fail
    go_loopw [8] (fun i wr => i = .int .i64 ((a : Int) + 1) ∧ wr = w) (fun _ _ => 0)
    case atStart => exact ⟨by go_num, rfl⟩
    case round =>
      obtain ⟨rfl, rfl⟩ := hrel
      go_wp2_with fail
      refine bodyPost_end (v := .tuple #[]) (by simp [results, Tryz.results268, go_sem]) rfl ⟨rfl, 0, d, #[], HST.out, HZ.out.symm, PermF.refl _ _ _, fun i j h1 h2 h3 => absurd h3 (by omega)⟩
  · have hlt0 : a < b := by omega
    clear hE hab
    go_enter Tryz.func268, Tryz.ntmps268
    go_wp2_with fail
    go_loopw [8] (fun vi wr => ∃ (i n : Nat) (dk : Array Nat) (os : Array Obj), vi = .int .i64 i ∧ a < i ∧ i ≤ b ∧ dk.size = z ∧ PermF a i (dF d) (dF dk) ∧ Ris (clI T) a i (dF dk) ∧ wr = sortWorldK encI 1 w blk 0 n dk os) (fun vi _ => b - (intOf vi).toNat)
    case atStart => exact ⟨a + 1, 0, d, #[], by go_num, by omega, by omega, HZ.out.symm, PermF.refl _ _ _, fun i j h1 h2 h3 => absurd h3 (by omega), HST.out⟩
    case round =>
      obtain ⟨i, n, dk, os, rfl, hai, hib, hsk, hperm, hris, hwr⟩ := hrel
      have HSK := hideO hsk
      have HPM := hideO hperm
      have HRS := hideO hris
      have HW := hideO hwr
      clear hsk hperm hris hwr
      by_cases hlt : i < b
      · obtain ⟨f, hf⟩ : ∃ f, f = dF dk := ⟨_, rfl⟩
        rw [← hf] at HPM HRS
        have HFD := hideO hf
        have HBF : Hid (∀ i, f i < T.size) := HPM.out.bd HBD.out
        have HPL : Hid (∀ k, a ≤ k → k < i → f k < f i) := fun k h1 h2 => by
          have e : f i = dF d i := HPM.out.2 i (Or.inr (Nat.le_refl _))
          rw [e]
          exact HPM.out.all (p := fun v => v < dF d i) (fun j h3 h4 => HRI.out j i h3 h4 hlt) k h1 h2
        clear hf
        go_wp2_with fail
        go_loopw [9] (fun vj wr2 => ∃ (j m : Nat) (dj : Array Nat) (oj : Array Obj), vj = .int .i64 j ∧ a ≤ j ∧ j ≤ i ∧ dj.size = z ∧ dF dj = rotF j i (i + 1) f ∧ (∀ k, j ≤ k → k < i → clI T (f i) (f k) = true) ∧ wr2 = sortWorldK encI 1 w blk 0 m dj oj) (fun vj _ => (intOf vj).toNat)
        case atStart => exact ⟨i, n, dk, os, rfl, by omega, Nat.le_refl _, HSK.out, by rw [rot_down0]; exact HFD.out.symm, fun k h1 h2 => absurd h2 (by omega), HW.out⟩
        case round =>
          obtain ⟨j, m, dj, oj, rfl, haj, hji, hsj, hfj, hcl, hwr⟩ := hrel
          have HSJ := hideO hsj
          have HFJ := hideO hfj
          have HCL := hideO hcl
          have HWJ := hideO hwr
          -- the end of the inner loop
          have OUT : Hid ((∀ k, a ≤ k → k < j → lx (clI T) (f k) (f i)) → PermF a (i + 1) (dF d) (dF dj) ∧ Ris (clI T) a (i + 1) (dF dj)) := fun hlo => by
            rw [HFJ.out]
            refine ⟨?_, ?_⟩
            · have h1 := HPM.out.mono (Nat.le_refl a) (Nat.le_of_lt hai) (Nat.le_succ i)
              exact h1.trans ((rot_perm f hji (Nat.le_succ i)).mono haj (by omega) (Nat.le_refl _))
            · exact down_ris (clI_weak T) HRS.out haj hji hlo (fun k h1 h2 => lx_yes (HCL.out k h1 h2))
          clear hsj hfj hcl
          by_cases hja : a < j
          · obtain ⟨jp, hjp⟩ : ∃ jp, j = jp + 1 := ⟨j - 1, by omega⟩
            have HJP := hideO hjp
            have hHj : HoldsK encI 1 wr blk 0 dj := by rw [hwr]; exact world_holds HH.out hblk m dj oj (HSJ.out.trans HZ.out)
            have hbw : blk < wr.heap.size := by rw [hwr]; exact Nat.lt_of_lt_of_le hblk (world_size m dj oj)
            obtain ⟨x0c, x0f⟩ := cells_I hHj (i := j) (by have := HSJ.out; omega)
            obtain ⟨y0c, y0f⟩ := cells_I hHj (i := jp) (by have := HSJ.out; omega)
            have ex : dj[j]! = f i := by
              have : dF dj j = f i := by
                rw [HFJ.out, rot_first f j (Nat.le_refl _) (by omega)]
                congr 1
                omega
              exact this
            have ey : dj[jp]! = f jp := by
              have : dF dj jp = f jp := by rw [HFJ.out, rot_out f jp (Or.inl (by omega)) hji (Nat.le_succ i)]
              exact this
            rw [ex] at x0c
            rw [ey] at y0c
            obtain ⟨x, hx⟩ : ∃ x, x = f i := ⟨_, rfl⟩
            obtain ⟨y, hy⟩ : ∃ y, y = f jp := ⟨_, rfl⟩
            have HXY : Hid (x = f i ∧ y = f jp) := ⟨hx, hy⟩
            rw [← hx] at x0c
            rw [← hy] at y0c
            have g0 := fun n' os' => cell_grown (a := ⟨blk, j, none⟩) hbw x0c n' os'
            have g2 := fun n' os' => cell_grown (a := ⟨blk, jp, none⟩) hbw y0c n' os'
            have hcc : wr.cell? ⟨cc, 0, none⟩ = some (.string T) := by rw [hwr]; exact HCP.out _ _ _
            have hcw : cc < wr.heap.size := Cap.lt hcc
            have gc := fun n' os' => cell_grown (a := ⟨cc, 0, none⟩) hcw hcc n' os'
            clear hcc hcw
            have HCM : Hid (∀ W, Cap W cc T → Calls Tryz.prog 263 #[.int .i64 x, .int .i64 y, .pointer (some ⟨cc, 0, none⟩)] W fun e w' => e = .returned (.int .i64 (cfI T x y)) ∧ ∃ q os', w' = grow (W.drewN q) os') := fun W hW => cmp_I T cc x y W hW (by rw [HXY.out.1]; exact HBF.out _) (by rw [HXY.out.2]; exact HBF.out _)
            have hneg := cfI_neg T x y
            obtain ⟨r, hr⟩ : ∃ r, r = cfI T x y := ⟨_, rfl⟩
            rw [← hr] at hneg HCM
            have e1 : (j : Int) - 1 = (jp : Int) := by omega
            have hwp : IntKind.i64.wrap (jp : Int) = (jp : Int) := by rw [IntKind.wrap_i64]; omega
            have jz : (j : Int) < (z : Int) := by omega
            have jz1 : (jp : Int) < (z : Int) := by omega
            have hjaz : (a : Int) < (j : Int) := by omega
            have hjad : decide ((a : Int) < (j : Int)) = true := decide_eq_true hjaz
            have HCLS := hideO (fun n' os' => sortWorldK_grown_c encI 1 w blk 0 m n' dj oj os')
            rw [← hwr] at HCLS
            clear hr ex ey hx hy hjp hwr
            cases hcb : clI T x y with
            | true =>
              rw [hcb] at hneg
              have hlv : r < 0 := of_decide_eq_true hneg
              clear hneg
              go_wp2_with fail
              go_quiet_grown (first | (go_at_call 263; refine Calls.grown_of (HCM.out _ (gc _ _))))
              have hW2 : grow (wr.drewN nq) osq = sortWorldK encI 1 w blk 0 (m + nq) dj (oj ++ osq) := HCLS.out nq osq
              dsimp only
              clear g0 g2 gc x0c x0f y0c y0f hHj hbw
              generalize grow (wr.drewN nq) osq = W2 at hW2 ⊢
              have hH2 : HoldsK encI 1 W2 blk 0 dj := by rw [hW2]; exact world_holds HH.out hblk (m + nq) dj (oj ++ osq) (HSJ.out.trans HZ.out)
              obtain ⟨x0c, x0f⟩ := cells_I hH2 (i := j) (by have := HSJ.out; omega)
              obtain ⟨y0c, y0f⟩ := cells_I hH2 (i := jp) (by have := HSJ.out; omega)
              have ex : dj[j]! = x := by
                have : dF dj j = x := by
                  rw [HXY.out.1, HFJ.out, rot_first f j (Nat.le_refl _) (by omega)]
                  congr 1
                  omega
                exact this
              have ey : dj[jp]! = y := by
                have : dF dj jp = y := by rw [HXY.out.2, HFJ.out, rot_out f jp (Or.inl (by have := HJP.out; omega)) hji (Nat.le_succ i)]
                exact this
              have hsw := sortWorldK_swp_c encI 1 w blk 0 encI_len (m + nq) dj (oj ++ osq) hblk j jp (by have := HSJ.out; omega) (by have := HSJ.out; omega)
              rw [ex, ey, ← hW2, Nat.zero_add, Nat.zero_add, Nat.mul_one, Nat.mul_one] at hsw
              rw [ex] at x0c
              rw [ey] at y0c
              have HSW := hideO hsw
              have hjne : jp < j := by have := HJP.out; omega
              have HROT : Hid (So.swp (rotF j i (i + 1) f) j jp = rotF jp i (i + 1) f) := by
                unfold Hid
                rw [HJP.out]
                exact rot_down jp i f (by have := HJP.out; omega)
              clear hW2 hH2 ex ey hsw
              go_wp2_with fail
              go_region
              all_goals (try go_wp2_with fail)
              all_goals go_roundw
              case rel =>
                refine ⟨jp, m + nq + 1, Go.Sort.swp dj j jp, oj ++ osq, rfl, by have := HJP.out; omega, by omega, by rw [Go.Sort.size_swp]; exact HSJ.out, ?_, fun k h1 h2 => ?_, HSW.out⟩
                · rw [dF_swp dj j jp (by have := HSJ.out; omega) (by have := HSJ.out; omega), HFJ.out]
                  exact HROT.out
                · rcases Nat.eq_or_lt_of_le h1 with e | e
                  · rw [← e, ← HXY.out.1, ← HXY.out.2]
                    exact hcb
                  · exact HCL.out k (by have := HJP.out; omega) h2
              case measure => have := HJP.out; simp [intOf]; omega
            | false =>
              rw [hcb] at hneg
              have hlv : ¬ r < 0 := of_decide_eq_false hneg
              have HO := hideO (OUT.out (fun k h1 h2 => by
                have hjx : lx (clI T) (f jp) (f i) := by
                  rw [← HXY.out.1, ← HXY.out.2]
                  refine lx_no hcb ?_
                  rw [HXY.out.1, HXY.out.2]
                  exact HPL.out jp (by have := HJP.out; omega) (by have := HJP.out; omega)
                exact HRS.out.le h1 (show k ≤ jp by have := HJP.out; omega) (by have := HJP.out; omega) (clI_weak T) hjx))
              clear hneg
              go_wp2_with fail
              go_quiet_grown (first | (go_at_call 263; refine Calls.grown_of (HCM.out _ (gc _ _))))
              have HW2 : Hid (grow (wr.drewN nq) osq = sortWorldK encI 1 w blk 0 (m + nq) dj (oj ++ osq)) := HCLS.out nq osq
              dsimp only
              clear g0 g2 gc x0c x0f y0c y0f hHj hbw
              go_wp2_with fail
              go_roundw
              case rel => exact ⟨i + 1, m + nq, dj, oj ++ osq, by go_num, by omega, by omega, HSJ.out, HO.out.1, HO.out.2, HW2.out⟩
              case measure => simp [intOf]; omega
          · have hjad : decide ((a : Int) < (j : Int)) = false := decide_eq_false (by omega)
            have hjaz : ¬ (a : Int) < (j : Int) := by omega
            have HO := hideO (OUT.out (fun k h1 h2 => absurd h2 (by omega)))
            have HDR : Hid (wr.drew = sortWorldK encI 1 w blk 0 (m + 1) dj oj) := by
              unfold Hid
              rw [hwr]
              rfl
            clear hwr
            go_wp2_with fail
            go_region
            all_goals (try go_wp2_with fail)
            all_goals go_roundw
            case rel => exact ⟨i + 1, m + 1, dj, oj, by go_num, by omega, by omega, HSJ.out, HO.out.1, HO.out.2, HDR.out⟩
            case measure => simp [intOf]; omega
      · obtain rfl : i = b := by omega
        go_wp2_with fail
        refine bodyPost_end (v := .tuple #[]) (by simp [results, Tryz.results268, go_sem]) rfl ⟨rfl, n, dk, os, HW.out, HSK.out, HPM.out, HRS.out⟩
end Go.Proofs.YtjdlgpnhkfdehaaGreatDoor.So


/- The walk of a merge in place at places, whose first part is one turn. -/
namespace Go.Proofs.YtjdlgpnhkfdehaaGreatDoor.So
open Go.RowKit Go.Sort Go.Proofs
set_option maxRecDepth 100000 in
set_option maxHeartbeats 4000000 in
theorem mergeA_I (T : ByteArray) (cc : Nat) (blk cap a b : Nat) (d : Array Nat) (w : World) (hH : HoldsK encI 1 w blk 0 d) (hblk : blk < w.heap.size) (hab : a + 1 < b) (hb : b ≤ d.size) (hsz : d.size ≤ 1048576) (hcap : Cap w cc T) (hcb0 : cc ≠ blk) (hbd : ∀ i, dF d i < T.size)
    (hr2 : Ris (clI T) (a + 1) b (dF d)) (hsep : Sep a (a + 1) b (dF d)) :
    Calls Tryz.prog 269 #[.slice (some ⟨blk, 0, none⟩) d.size cap, .int .i64 a, .int .i64 (a + 1 : Nat), .int .i64 b, .func (.func 263) #[] #[.pointer (some ⟨cc, 0, none⟩)]] w fun e w' =>
      e = .returned (.tuple #[]) ∧ ∃ n d' os, w' = sortWorldK encI 1 w blk 0 n d' os ∧ d'.size = d.size ∧ PermF a b (dF d) (dF d') ∧ Ris (clI T) a b (dF d') := by
  have mixed := mixed
  have HST := hideO (world_self hH)
  have HH := hideO hH
  have HCP : Hid (∀ (m : Nat) (dk : Array Nat) (os : Array Obj), Cap (sortWorldK encI 1 w blk 0 m dk os) cc T) := fun m dk os => hcap.block (world_block m dk os hcap.lt hcb0)
  have HBD := hideO hbd
  clear hcap hcb0 hbd
  have HR2 := hideO hr2
  have HSP := hideO hsep
  clear hH hr2 hsep
  obtain ⟨z, hz⟩ : ∃ z, z = d.size := ⟨_, rfl⟩
  have HZ := hideO hz
  rw [← hz] at hb hsz ⊢
  clear hz
  obtain ⟨f, hf⟩ : ∃ f, f = dF d := ⟨_, rfl⟩
  have HFD := hideO hf
  have HBF : Hid (∀ i, f i < T.size) := by
    unfold Hid
    rw [hf]
    exact HBD.out
  rw [← hf] at HR2 HSP ⊢
  clear hf
  obtain ⟨m, hm⟩ : ∃ m, m = a + 1 := ⟨_, rfl⟩
  have hma : (m : Int) - (a : Int) = 1 := by omega
  have ham : a < m := by omega
  rw [← hm] at hab HR2 HSP ⊢
  have HM := hideO hm
  clear hm
  go_enter Tryz.func269, Tryz.ntmps269
  go_wp2_with fail
  clear hma
  go_loopw [10, 11] (fun u v wr => ∃ (i j n : Nat) (os : Array Obj), u = .int .i64 i ∧ v = .int .i64 j ∧ m ≤ i ∧ i ≤ j ∧ j ≤ b ∧ (m < i → lx (clI T) (f (i - 1)) (f a)) ∧ (j < b → lx (clI T) (f a) (f j)) ∧ wr = sortWorldK encI 1 w blk 0 n d os) (fun u v _ => (intOf v).toNat - (intOf u).toNat)
  case atStart => exact ⟨m, b, 0, #[], rfl, rfl, Nat.le_refl _, by omega, Nat.le_refl _, fun h => absurd h (by omega), fun h => absurd h (by omega), HST.out⟩
  case round =>
    obtain ⟨i, j, n, os, rfl, rfl, hmi, hij, hjb, hlo, hhi, hwr⟩ := hrel
    have HLO := hideO hlo
    have HHI := hideO hhi
    have HW := hideO hwr
    clear hlo hhi
    by_cases hlt : i < j
    · obtain ⟨h, hh⟩ : ∃ h, h = (i + j) / 2 := ⟨_, rfl⟩
      have e1 : ((i : Int) + (j : Int)) / 2 = (h : Int) := by omega
      have hhb : h < z := by omega
      have hih : i ≤ h := by omega
      have hhj : h < j := by omega
      have hHj : HoldsK encI 1 wr blk 0 d := by rw [hwr]; exact world_holds HH.out hblk n d os rfl
      have hbw : blk < wr.heap.size := by rw [hwr]; exact Nat.lt_of_lt_of_le hblk (world_size n d os)
      obtain ⟨x0c, x0f⟩ := cells_I hHj (i := h) (by have := HZ.out; omega)
      obtain ⟨y0c, y0f⟩ := cells_I hHj (i := a) (by have := HZ.out; omega)
      obtain ⟨x, hx⟩ : ∃ x, x = d[h]! := ⟨_, rfl⟩
      obtain ⟨y, hy⟩ : ∃ y, y = d[a]! := ⟨_, rfl⟩
      have HXY : Hid (x = f h ∧ y = f a) := ⟨by rw [hx, HFD.out]; rfl, by rw [hy, HFD.out]; rfl⟩
      rw [← hx] at x0c
      rw [← hy] at y0c
      have g0 := fun n' os' => cell_grown (a := ⟨blk, h, none⟩) hbw x0c n' os'
      have g2 := fun n' os' => cell_grown (a := ⟨blk, a, none⟩) hbw y0c n' os'
      have hcc : wr.cell? ⟨cc, 0, none⟩ = some (.string T) := by rw [hwr]; exact HCP.out _ _ _
      have hcw : cc < wr.heap.size := Cap.lt hcc
      have gc := fun n' os' => cell_grown (a := ⟨cc, 0, none⟩) hcw hcc n' os'
      clear hcc hcw
      have HCM : Hid (∀ W, Cap W cc T → Calls Tryz.prog 263 #[.int .i64 x, .int .i64 y, .pointer (some ⟨cc, 0, none⟩)] W fun e w' => e = .returned (.int .i64 (cfI T x y)) ∧ ∃ q os', w' = grow (W.drewN q) os') := fun W hW => cmp_I T cc x y W hW (by rw [HXY.out.1]; exact HBF.out _) (by rw [HXY.out.2]; exact HBF.out _)
      have hneg := cfI_neg T x y
      obtain ⟨r, hr⟩ : ∃ r, r = cfI T x y := ⟨_, rfl⟩
      rw [← hr] at hneg HCM
      have hz1 : (h : Int) < (z : Int) := by omega
      have hz2 : (a : Int) < (z : Int) := by omega
      have HCLS := hideO (fun n' os' => sortWorldK_grown_c encI 1 w blk 0 n n' d os os')
      rw [← hwr] at HCLS
      clear hr hx hy hwr hh x0c x0f y0c y0f hHj hbw
      cases hcb : clI T x y with
      | true =>
        rw [hcb] at hneg
        have hlv : r < 0 := of_decide_eq_true hneg
        have HL2 : Hid (lx (clI T) (f h) (f a)) := by
          unfold Hid
          rw [← HXY.out.1, ← HXY.out.2]
          exact lx_yes hcb
        clear hneg
        go_wp2_with fail
        go_quiet_grown (first | (go_at_call 263; refine Calls.grown_of (HCM.out _ (gc _ _))))
        have HW2 : Hid (grow (wr.drewN nq) osq = sortWorldK encI 1 w blk 0 (n + nq) d (os ++ osq)) := HCLS.out nq osq
        dsimp only
        clear g0 g2 gc
        go_wp2_with fail
        go_roundw
        case rel => exact ⟨h + 1, j, n + nq, os ++ osq, by go_num, rfl, by omega, by omega, hjb, fun _ => HL2.out, HHI.out, HW2.out⟩
        case measure => simp [intOf]; omega
      | false =>
        rw [hcb] at hneg
        have hlv : ¬ r < 0 := of_decide_eq_false hneg
        have HL2 : Hid (lx (clI T) (f a) (f h)) := by
          unfold Hid
          have hpl := HSP.out a h (Nat.le_refl _) ham (by omega) (by omega)
          rw [← HXY.out.1, ← HXY.out.2] at hpl ⊢
          exact lx_no hcb hpl
        clear hneg
        go_wp2_with fail
        go_quiet_grown (first | (go_at_call 263; refine Calls.grown_of (HCM.out _ (gc _ _))))
        have HW2 : Hid (grow (wr.drewN nq) osq = sortWorldK encI 1 w blk 0 (n + nq) d (os ++ osq)) := HCLS.out nq osq
        dsimp only
        clear g0 g2 gc
        go_wp2_with fail
        go_roundw
        case rel => exact ⟨i, h, n + nq, os ++ osq, rfl, rfl, hmi, by omega, by omega, HLO.out, fun _ => HL2.out, HW2.out⟩
        case measure => simp [intOf]; omega
    · obtain rfl : i = j := by omega
      have HRR : Hid (Ris (clI T) a b (rotF a m i f)) := by
        unfold Hid
        have hmm := HM.out
        rw [hmm] at HR2 ⊢
        exact up_ris (clI_weak T) HR2.out (by omega) (by omega)
          (fun k h1 h2 => HR2.out.le h1 (show k ≤ i - 1 by omega) (by omega) (clI_weak T) (HLO.out (by omega)))
          (fun k h1 h2 => HR2.out.ge (by omega) h1 h2 (clI_weak T) (HHI.out (by omega)))
      have HPP : Hid (PermF a b f (rotF a m i f)) := (rot_perm f (by omega) (by omega)).mono (Nat.le_refl _) (by omega) hjb
      clear hwr
      go_wp2_with fail
      go_loopw [13] (fun u wr2 => ∃ (k n : Nat) (dk : Array Nat) (os : Array Obj), u = .int .i64 k ∧ a ≤ k ∧ k + 1 ≤ i ∧ dk.size = z ∧ dF dk = rotF a m (k + 1) f ∧ wr2 = sortWorldK encI 1 w blk 0 n dk os) (fun u _ => i - (intOf u).toNat)
      case atStart => exact ⟨a, n, d, os, rfl, Nat.le_refl _, by omega, HZ.out.symm, by rw [HM.out, rot_up0]; exact HFD.out.symm, HW.out⟩
      case round =>
        obtain ⟨k, n2, dk, os2, rfl, hak, hki, hsk, hfk, hwr⟩ := hrel
        have HSK := hideO hsk
        have HFK := hideO hfk
        obtain ⟨ip, hip⟩ : ∃ ip, i = ip + 1 := ⟨i - 1, by omega⟩
        have eip : (i : Int) - 1 = (ip : Int) := by omega
        have hipw : IntKind.i64.wrap (ip : Int) = (ip : Int) := by rw [IntKind.wrap_i64]; omega
        have HIP := hideO hip
        by_cases hlt2 : k + 1 < i
        · obtain ⟨q, hq⟩ : ∃ q, q = k + 1 := ⟨_, rfl⟩
          have eq1 : (k : Int) + 1 = (q : Int) := by omega
          have hH2 : HoldsK encI 1 wr blk 0 dk := by rw [hwr]; exact world_holds HH.out hblk n2 dk os2 (hsk.trans HZ.out)
          obtain ⟨x0c, x0f⟩ := cells_I hH2 (i := k) (by omega)
          obtain ⟨y0c, y0f⟩ := cells_I hH2 (i := q) (by omega)
          obtain ⟨x, hx⟩ : ∃ x, x = dk[k]! := ⟨_, rfl⟩
          obtain ⟨y, hy⟩ : ∃ y, y = dk[q]! := ⟨_, rfl⟩
          have hsw := sortWorldK_swp_c encI 1 w blk 0 encI_len n2 dk os2 hblk k q (by omega) (by omega)
          rw [← hx, ← hy, ← hwr, Nat.zero_add, Nat.zero_add, Nat.mul_one, Nat.mul_one] at hsw
          rw [← hx] at x0c
          rw [← hy] at y0c
          have HSW := hideO hsw
          have hkz : (k : Int) < (z : Int) := by omega
          have hqz : (q : Int) < (z : Int) := by omega
          have hqw : IntKind.i64.wrap (q : Int) = (q : Int) := by rw [IntKind.wrap_i64]; omega
          have hkip : (k : Int) < (ip : Int) := by omega
          have hkq : k < q := by omega
          have HQ := hideO hq
          have HROT : Hid (So.swp (rotF a m (k + 1) f) k q = rotF a m (k + 2) f) := by
            unfold Hid
            rw [HM.out, hq]
            exact rot_up a k f hak
          clear hwr hH2 hx hy hsw hsk hfk hip hq
          go_wp2_with fail
          go_region
          all_goals (try go_wp2_with fail)
          all_goals go_roundw
          case rel =>
            refine ⟨q, n2 + 1, Go.Sort.swp dk k q, os2, rfl, by omega, by have := HQ.out; omega, by rw [Go.Sort.size_swp]; exact HSK.out, ?_, HSW.out⟩
            rw [dF_swp dk k q (by have := HSK.out; have := HQ.out; omega) (by have := HSK.out; have := HQ.out; omega), HFK.out, HROT.out, HQ.out]
          case measure => have := HQ.out; simp [intOf]; omega
        · have hkip : ¬ (k : Int) < (ip : Int) := by omega
          have HWW := hideO hwr
          have HE : Hid (dF dk = rotF a m i f) := by
            unfold Hid
            rw [hfk, show k + 1 = i by omega]
          clear hwr hsk hfk hip
          go_wp2_with fail
          refine bodyPost_ret (v := .tuple #[]) (by simp [results, Tryz.results269, go_sem]) rfl ⟨rfl, n2, dk, ⟨os2, HWW.out⟩, HSK.out, by rw [HE.out]; exact HPP.out, by rw [HE.out]; exact HRR.out⟩
end Go.Proofs.YtjdlgpnhkfdehaaGreatDoor.So

