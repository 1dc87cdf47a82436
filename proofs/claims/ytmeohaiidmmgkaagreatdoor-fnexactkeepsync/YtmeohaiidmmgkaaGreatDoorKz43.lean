/- Texts put together: KqTop. -/
import Derived.Test.YtmeohaiidmmgkaaGreatDoorKz41
import Derived.Test.YtmeohaiidmmgkaaGreatDoorKz42
/- KeepRight, KeepSync, KeepRecover, PieceOf of the specification. -/
namespace Go.Proofs.YtmeohaiidmmgkaaGreatDoor.Kp
open Go.RowKit
open Go.Proofs.YtmeohaiidmmgkaaGreatDoor.Bi (is_yes is_no)
open Go.Proofs.YtmeohaiidmmgkaaGreatDoor.Ls (rightB right_spec lV lowL blkL cells3 set3_all)
theorem keepB_no {fit : Rec → Bool} {z b : Int} {r s : ByteArray} {y : Int} (h : ¬ (rightB z b r = true ∧ s.size ≤ 8000 ∧ 0 ≤ y ∧ y ≤ s.size)) : keepB fit z b r s y = false := by
 rw [← Bool.not_eq_true]
 intro h2
 obtain ⟨h3, _, h5⟩ := keepB_yes h2
 unfold mayB at h3
 unfold spanB at h5
 simp only [Bool.and_eq_true, decide_eq_true_eq] at h3 h5
 exact h ⟨h3.1, h3.2, h5.1, h5.2⟩
theorem keepB_at {fit : Rec → Bool} {z b : Int} {r s : ByteArray} {y : Int} (h : rightB z b r = true ∧ s.size ≤ 8000 ∧ 0 ≤ y ∧ y ≤ s.size) : keepB fit z b r s y = (((allR fit s).2 : Int) == (s.size : Int)) := by
 unfold keepB atB mayB spanB
 rw [h.1, decide_eq_true h.2.1, decide_eq_true h.2.2.1, decide_eq_true h.2.2.2]
 by_cases he : (allR fit s).2 = s.size
 ·rw [decide_eq_true he, he]; simp
 ·rw [decide_eq_false he]; simp; omega
set_option maxRecDepth 100000 in
set_option maxHeartbeats 2000000 in
theorem keepRight_spec (fit : Rec → Bool) (z b : Int) (r s : ByteArray) (y : Int) (w : World) (hs : s.size ≤ 1048576) (hf : rightB z b r = true → FitS fit z b r w) :
  Calls Tryz.prog 10 #[kV z b r s y] w fun e w' => e = .returned (.bool (keepB fit z b r s y)) ∧ Below w.heap.size w w' := by
 have C0 := hideK ((Cx.nil w).new (kB z b r s y))
 have HR := hideK (fun W => right_spec z b r W)
 unfold kV
 unfold kB at C0
 unfold lV at HR
 cases hr : rightB z b r with
 | false =>
  have HK := hideK (keepB_no (fit := fit) (z := z) (b := b) (r := r) (s := s) (y := y) (fun h => by rw [hr] at h; exact Bool.false_ne_true h.1))
  rw [HK.out]
  rw [hr] at HR
  clear hr HK hf
  go_enter Tryz.func10, Tryz.ntmps10
  go_wp2_with fail
  refine (HR.out _).mono ?_
  rintro e w1 ⟨rfl, hb⟩
  have C1 := hideK (C0.out.call hb)
  clear hb C0
  go_wp2_with fail
  go_ret
  exact ⟨rfl, C1.out.low⟩
 | true =>
  rw [hr] at HR
  by_cases h8 : s.size ≤ 8000
  ·have h8' : ¬ ((8000 : Int) < s.size) := by omega
   have h8D : decide ((8000 : Int) < s.size) = false := by simp; omega
   by_cases hy : 0 ≤ y ∧ y ≤ s.size
   ·have HIS := hideK (fun W => is_yes y 0 s.size W hy.1 hy.2)
    have HK := hideK (keepB_at (fit := fit) ⟨hr, h8, hy.1, hy.2⟩)
    rw [HK.out]
    have HA := hideK (fun W (h : Below w.heap.size w W) => l08All_any fit z b r s W hs ((hf hr).later h))
    unfold AllOut lV at HA
    clear hr HK hf hy
    go_enter Tryz.func10, Tryz.ntmps10
    go_wp2_with fail
    refine (HR.out _).mono ?_
    rintro e w1 ⟨rfl, hb⟩
    have C1 := hideK (C0.out.call hb)
    clear hb C0
    obtain ⟨l0, l1, l2, l3, l4⟩ := k_cells (C1.out.get 0 rfl)
    go_wp2_with fail
    refine (HIS.out _).mono ?_
    rintro e w2 ⟨rfl, hw⟩
    subst w2
    go_wp2_with fail
    refine (HA.out _ C1.out.low).mono ?_
    rintro e w3 ⟨⟨v, m, rfl, h1, h2, h3⟩, hb⟩
    obtain ⟨a0, cap0, hv, _⟩ := h2.one
    subst hv
    have C3 := hideK (C1.out.call hb)
    clear hb h1 h2 h3 C1 l0 l1 l2 l3 l4 HA
    obtain ⟨l0, l1, l2, l3, l4⟩ := k_cells (C3.out.get 0 rfl)
    go_wp2_with fail
    go_ret
    exact ⟨rfl, C3.out.low⟩
   ·have HIS := hideK (fun W => is_no y 0 s.size W (by omega))
    have HK := hideK (keepB_no (fit := fit) (z := z) (b := b) (r := r) (s := s) (y := y) (fun h => hy ⟨h.2.2.1, h.2.2.2⟩))
    rw [HK.out]
    clear hr HK hf hy
    go_enter Tryz.func10, Tryz.ntmps10
    go_wp2_with fail
    refine (HR.out _).mono ?_
    rintro e w1 ⟨rfl, hb⟩
    have C1 := hideK (C0.out.call hb)
    clear hb C0
    obtain ⟨l0, l1, l2, l3, l4⟩ := k_cells (C1.out.get 0 rfl)
    go_wp2_with fail
    refine (HIS.out _).mono ?_
    rintro e w2 ⟨rfl, hw⟩
    subst w2
    go_wp2_with fail
    go_ret
    exact ⟨rfl, C1.out.low⟩
  ·have h8' : (8000 : Int) < s.size := by omega
   have HK := hideK (keepB_no (fit := fit) (z := z) (b := b) (r := r) (s := s) (y := y) (fun h => h8 h.2.1))
   rw [HK.out]
   clear hr HK hf
   go_enter Tryz.func10, Tryz.ntmps10
   go_wp2_with fail
   refine (HR.out _).mono ?_
   rintro e w1 ⟨rfl, hb⟩
   have C1 := hideK (C0.out.call hb)
   clear hb C0
   obtain ⟨l0, l1, l2, l3, l4⟩ := k_cells (C1.out.get 0 rfl)
   go_wp2_with fail
   go_ret
   exact ⟨rfl, C1.out.low⟩
theorem k_set {W : World} {g : Nat} {z b : Int} {r s : ByteArray} {y : Int} (h : W.heap[g]? = some (kB z b r s y)) (t : ByteArray) (x : Int) : (W.setCell ⟨g, 3, none⟩ (.string t)).heap[g]? = some (kB z b r t y) ∧ (W.setCell ⟨g, 4, none⟩ (.int .i64 x)).heap[g]? = some (kB z b r s x) := by
 unfold kB at h ⊢
 exact ⟨by rw [heap_setCell_same W g 3 _ _ _ h]; rfl, by rw [heap_setCell_same W g 4 _ _ _ h]; rfl⟩
set_option maxRecDepth 100000 in
set_option maxHeartbeats 2000000 in
theorem keepSync_spec (fit : Rec → Bool) (z b : Int) (r s : ByteArray) (y : Int) (w : World) (hs : s.size ≤ 1048576) (hf : rightB z b r = true → FitS fit z b r w) :
  Calls Tryz.prog 19 #[kV z b r s y] w fun e w' => e = .returned (syncV fit z b r s y) ∧ Below w.heap.size w w' := by
 have C0 := hideK (((Cx.nil w).new (kB z b r s y)).new kZ)
 simp only [World.size_alloc] at C0
 have HR := hideK (fun W (h : Below w.heap.size w W) => keepRight_spec fit z b r s y W hs (fun hr => (hf hr).later h))
 have HY : Hid (keepB fit z b r s y = true → syncV fit z b r s y = kV z b r s s.size) := fun h => if_pos h
 have HN : Hid (keepB fit z b r s y = false → syncV fit z b r s y = kV z b r s y) := fun h => if_neg (by rw [h]; exact Bool.false_ne_true)
 clear hf
 generalize syncV fit z b r s y = A at HY HN ⊢
 unfold kV at HR HY HN ⊢
 unfold kB kZ at C0
 go_enter Tryz.func19, Tryz.ntmps19
 go_wp2_with fail
 generalize (w.alloc _).alloc _ = W0 at C0 ⊢
 generalize hgk : w.heap.size = gk at C0 ⊢
 have HGK := hideK hgk
 clear hgk
 refine (HR.out _ C0.out.low).mono ?_
 rintro e w2 ⟨rfl, hb⟩
 have C2 := hideK (C0.out.call hb)
 clear hb C0 HR
 obtain ⟨k0, k1, k2, k3, k4⟩ := k_cells (C2.out.get 1 rfl)
 obtain ⟨q0, q1, q2, q3, q4⟩ := cells5 (C2.out.get 0 rfl)
 have ff := fun o => frozen_of_row w2 (gk + 1) o _ _ (C2.out.get 0 rfl)
 have fk := fun o => frozen_of_row w2 gk o _ _ (C2.out.get 1 rfl)
 cases hk : keepB fit z b r s y with
 | false =>
  have HE := hideK (HN.out hk)
  clear hk HY HN
  have HF := hideK (ans5 (C2.out.get 0 rfl) C2.out.low (by have := HGK.out; omega) (.int .i64 z) (.int .i64 b) (.string r) (.string s) (.int .i64 y))
  have s5 := cells5 HF.out.2
  go_wp2_with fail
  exact bodyPost_ret (v := .agg #[.int .i64 z, .int .i64 b, .string r, .string s, .int .i64 y]) (by simp [results, Tryz.results19, go_sem, s5.1, s5.2.1, s5.2.2.1, s5.2.2.2.1, s5.2.2.2.2]) rfl ⟨by rw [HE.out], HF.out.1⟩
 | true =>
  have HE := hideK (HY.out hk)
  clear hk HY HN
  have X3 := hideK (k_set (C2.out.get 1 rfl) s s.size).2
  have C3 : Hid (Cx w (w2.setCell ⟨gk, 4, none⟩ (.int .i64 s.size)) [(gk + 1, .cells #[.int .i64 0, .int .i64 0, .string ⟨#[]⟩, .string ⟨#[]⟩, .int .i64 0] 30)]) := Cx.set ⟨C2.out.low, fun x hx => C2.out.blk x (by rw [List.mem_singleton.1 hx]; exact List.mem_cons_self)⟩ (by have := HGK.out; omega) (fun x hx => by rw [List.mem_singleton.1 hx]; show gk + 1 ≠ gk; omega) 4 _
  go_upto_region 3 with fail
  generalize w2.setCell ⟨gk, 4, none⟩ (.int .i64 s.size) = W3 at X3 C3 ⊢
  clear C2 k0 k1 k2 k3 k4 q0 q1 q2 q3 q4 ff fk
  obtain ⟨k0, k1, k2, k3, k4⟩ := k_cells X3.out
  obtain ⟨q0, q1, q2, q3, q4⟩ := cells5 (C3.out.get 0 rfl)
  have ff := fun o => frozen_of_row W3 (gk + 1) o _ _ (C3.out.get 0 rfl)
  have HF := hideK (ans5 (C3.out.get 0 rfl) C3.out.low (by have := HGK.out; omega) (.int .i64 z) (.int .i64 b) (.string r) (.string s) (.int .i64 s.size))
  have s5 := cells5 HF.out.2
  go_wp2_with fail
  exact bodyPost_ret (v := .agg #[.int .i64 z, .int .i64 b, .string r, .string s, .int .i64 s.size]) (by simp [results, Tryz.results19, go_sem, s5.1, s5.2.1, s5.2.2.1, s5.2.2.2.1, s5.2.2.2.2]) rfl ⟨by rw [HE.out], HF.out.1⟩
set_option maxRecDepth 100000 in
set_option maxHeartbeats 2000000 in
theorem keepRecover_spec (fit : Rec → Bool) (z b : Int) (r s : ByteArray) (y : Int) (w : World) (hs : s.size ≤ 1048576) (hf : rightB z b r = true → FitS fit z b r w) :
  Calls Tryz.prog 22 #[kV z b r s y] w fun e w' => e = .returned (recoverV fit z b r s y) ∧ Below w.heap.size w w' := by
 have C0 := hideK (((Cx.nil w).new (kB z b r s y)).new kZ)
 simp only [World.size_alloc] at C0
 have HR := hideK (fun W => right_spec z b r W)
 have HYE : Hid (mayB z b r s = true → recoverV fit z b r s y = kV z b r (s.extract 0 (allR fit s).2) (allR fit s).2) := fun h => if_pos h
 have HNO : Hid (mayB z b r s = false → recoverV fit z b r s y = kV z b r s y) := fun h => if_neg (by rw [h]; exact Bool.false_ne_true)
 have HLE := allR_le fit s
 generalize recoverV fit z b r s y = A at HYE HNO ⊢
 unfold kV at HYE HNO ⊢
 unfold kB kZ at C0
 unfold lV at HR
 go_enter Tryz.func22, Tryz.ntmps22
 go_wp2_with fail
 generalize (w.alloc _).alloc _ = W0 at C0 ⊢
 generalize hgk : w.heap.size = gk at C0 ⊢
 have HGK := hideK hgk
 clear hgk
 refine (HR.out _).mono ?_
 rintro e w2 ⟨rfl, hb⟩
 have C2 := hideK (C0.out.call hb)
 clear hb C0 HR
 obtain ⟨k0, k1, k2, k3, k4⟩ := k_cells (C2.out.get 1 rfl)
 obtain ⟨q0, q1, q2, q3, q4⟩ := cells5 (C2.out.get 0 rfl)
 have ff := fun o => frozen_of_row w2 (gk + 1) o _ _ (C2.out.get 0 rfl)
 have fk := fun o => frozen_of_row w2 gk o _ _ (C2.out.get 1 rfl)
 have HF := hideK (ans5 (C2.out.get 0 rfl) C2.out.low (by have := HGK.out; omega) (.int .i64 z) (.int .i64 b) (.string r) (.string s) (.int .i64 y))
 have s5 := cells5 HF.out.2
 cases hr : rightB z b r with
 | false =>
  have HE := hideK (HNO.out (by unfold mayB; rw [hr]; rfl))
  clear hr HYE HNO hf
  go_wp2_with fail
  exact bodyPost_ret (v := .agg #[.int .i64 z, .int .i64 b, .string r, .string s, .int .i64 y]) (by simp [results, Tryz.results22, go_sem, s5.1, s5.2.1, s5.2.2.1, s5.2.2.2.1, s5.2.2.2.2]) rfl ⟨by rw [HE.out], HF.out.1⟩
 | true =>
  by_cases h8 : s.size ≤ 8000
  ·have h8' : ¬ ((8000 : Int) < s.size) := by omega
   have h8D : decide ((8000 : Int) < s.size) = false := by simp; omega
   have HE := hideK (HYE.out (by unfold mayB; rw [hr, decide_eq_true h8]; rfl))
   have HA := hideK (fun W (h : Below w.heap.size w W) => l08All_any fit z b r s W hs ((hf hr).later h))
   unfold AllOut lV at HA
   clear hr HYE HNO hf s5 HF
   generalize (allR fit s).2 = e at HE HA HLE
   go_wp2_with fail
   refine (HA.out _ C2.out.low).mono ?_
   rintro q w3 ⟨⟨v, m, rfl, h1, h2, h3⟩, hb⟩
   obtain ⟨a0, cap0, hv, _⟩ := h2.one
   subst hv
   have C3 := hideK (C2.out.call hb)
   clear hb h1 h2 h3 C2 k0 k1 k2 k3 k4 q0 q1 q2 q3 q4 ff fk HA
   obtain ⟨k0, k1, k2, k3, k4⟩ := k_cells (C3.out.get 1 rfl)
   have fk := fun o => frozen_of_row w3 gk o _ _ (C3.out.get 1 rfl)
   have X4 := hideK (k_set (k_set (C3.out.get 1 rfl) (s.extract 0 e) y).1 (s.extract 0 e) e).2
   have C4 : Hid (Cx w ((w3.setCell ⟨gk, 3, none⟩ (.string (s.extract 0 e))).setCell ⟨gk, 4, none⟩ (.int .i64 e)) [(gk + 1, .cells #[.int .i64 0, .int .i64 0, .string ⟨#[]⟩, .string ⟨#[]⟩, .int .i64 0] 30)]) := Cx.set (Cx.set ⟨C3.out.low, fun x hx => C3.out.blk x (by rw [List.mem_singleton.1 hx]; exact List.mem_cons_self)⟩ (by have := HGK.out; omega) (fun x hx => by rw [List.mem_singleton.1 hx]; show gk + 1 ≠ gk; omega) 3 _) (by have := HGK.out; omega) (fun x hx => by rw [List.mem_singleton.1 hx]; show gk + 1 ≠ gk; omega) 4 _
   go_upto_region 6 with fail
   generalize (w3.setCell ⟨gk, 3, none⟩ (.string (s.extract 0 e))).setCell ⟨gk, 4, none⟩ (.int .i64 e) = W4 at X4 C4 ⊢
   generalize s.extract 0 e = t at X4 HE ⊢
   clear C3 k0 k1 k2 k3 k4 fk
   obtain ⟨k0, k1, k2, k3, k4⟩ := k_cells X4.out
   obtain ⟨q0, q1, q2, q3, q4⟩ := cells5 (C4.out.get 0 rfl)
   have ff := fun o => frozen_of_row W4 (gk + 1) o _ _ (C4.out.get 0 rfl)
   have HF := hideK (ans5 (C4.out.get 0 rfl) C4.out.low (by have := HGK.out; omega) (.int .i64 z) (.int .i64 b) (.string r) (.string t) (.int .i64 e))
   have s5 := cells5 HF.out.2
   go_wp2_with fail
   exact bodyPost_ret (v := .agg #[.int .i64 z, .int .i64 b, .string r, .string t, .int .i64 e]) (by simp [results, Tryz.results22, go_sem, s5.1, s5.2.1, s5.2.2.1, s5.2.2.2.1, s5.2.2.2.2]) rfl ⟨by rw [HE.out], HF.out.1⟩
  ·have h8' : (8000 : Int) < s.size := by omega
   have HE := hideK (HNO.out (by unfold mayB; rw [decide_eq_false h8, Bool.and_false]))
   clear hr HYE HNO hf
   go_wp2_with fail
   exact bodyPost_ret (v := .agg #[.int .i64 z, .int .i64 b, .string r, .string s, .int .i64 y]) (by simp [results, Tryz.results22, go_sem, s5.1, s5.2.1, s5.2.2.1, s5.2.2.2.1, s5.2.2.2.2]) rfl ⟨by rw [HE.out], HF.out.1⟩
set_option maxRecDepth 100000 in
set_option maxHeartbeats 2000000 in
theorem pieceOf_spec (fit : Rec → Bool) (z b : Int) (r s : ByteArray) (y i : Int) (w : World) (hs : s.size ≤ 1048576) (hf : rightB z b r = true → FitS fit z b r w) :
  Calls Tryz.prog 29 #[kV z b r s y, .int .i64 i] w fun e w' => e = .returned (pieceV fit z b r s y i) ∧ Below w.heap.size w w' := by
 have C0 := hideK (((Cx.nil w).new (kB z b r s y)).new tZ)
 simp only [World.size_alloc] at C0
 have HR := hideK (fun W (h : Below w.heap.size w W) => keepRight_spec fit z b r s y W hs (fun hr => (hf hr).later h))
 have HY : Hid (keepB fit z b r s y = true → pieceV fit z b r s y i = match pieceR (allR fit s).1 i with
  | some t => .agg #[.string t, .int .i64 0, .int .i64 0]
  | none => .agg #[.string ⟨#[]⟩, .int .i64 0, .int .i64 6]) := fun h => if_pos h
 have HN : Hid (keepB fit z b r s y = false → pieceV fit z b r s y i = .agg #[.string ⟨#[]⟩, .int .i64 0, .int .i64 1]) := fun h => if_neg (by rw [h]; exact Bool.false_ne_true)
 have HA : Hid (∀ W, keepB fit z b r s y = true → Below w.heap.size w W → Calls Tryz.prog 35 #[lV z b r, .string s] W fun e w' => AllOut fit s W.heap.size e w' ∧ Below W.heap.size W w') := fun W hk h => l08All_any fit z b r s W hs ((hf (by have := (keepB_yes hk).1; unfold mayB at this; simp only [Bool.and_eq_true] at this; exact this.1)).later h)
 clear hf
 generalize pieceV fit z b r s y i = A at HY HN ⊢
 unfold AllOut lV at HA
 unfold kV at HR ⊢
 unfold kB tZ at C0
 go_enter Tryz.func29, Tryz.ntmps29
 go_wp2_with fail
 generalize (w.alloc _).alloc _ = W0 at C0 ⊢
 generalize hgk : w.heap.size = gk at C0 ⊢
 have HGK := hideK hgk
 clear hgk
 refine (HR.out _ C0.out.low).mono ?_
 rintro e w2 ⟨rfl, hb⟩
 have C2 := hideK (C0.out.call hb)
 clear hb C0 HR
 obtain ⟨k0, k1, k2, k3, k4⟩ := k_cells (C2.out.get 1 rfl)
 cases hk : keepB fit z b r s y with
 | false =>
  have HE := hideK (HN.out hk)
  clear hk HY HN HA
  obtain ⟨q0, q1, q2⟩ := cells3 (C2.out.get 0 rfl)
  have ff := fun o => frozen_of_row w2 (gk + 1) o _ _ (C2.out.get 0 rfl)
  have s3 := set3_all (C2.out.get 0 rfl) (.string ⟨#[]⟩) (.int .i64 0) (.int .i64 1)
  have E3 := hideK (set3_low C2.out.low (g := gk + 1) (by have := HGK.out; omega) (.string ⟨#[]⟩) (.int .i64 0) (.int .i64 1))
  go_wp2_with fail
  exact bodyPost_ret (v := .agg #[.string ⟨#[]⟩, .int .i64 0, .int .i64 1]) (by simp [results, Tryz.results29, go_sem, s3.1, s3.2.1, s3.2.2]) rfl ⟨by rw [HE.out], E3.out⟩
 | true =>
  have HE := hideK (HY.out hk)
  have HA1 := hideK (fun W => HA.out W hk)
  clear hk HY HN HA
  go_wp2_with fail
  refine (HA1.out _ C2.out.low).mono ?_
  rintro q w3 ⟨⟨v, m, rfl, h1, h2, h3⟩, hb⟩
  have RW := hideK h2
  obtain ⟨a0, cap0, hv, hcl⟩ := h2.one
  subst hv
  have HCL := hideK hcl
  have C3 := hideK (C2.out.call hb)
  rw [← h1] at HE
  have hml : m.length ≤ 1048576 := by
   have h5 := allR_many fit s
   have h6 := allR_le fit s
   rw [← h1, recs_length] at h5
   omega
  have HHS := hideK (l08Has_any w2.heap.size m.length i _ m w3 RW.out rfl hml)
  clear hb h1 h2 h3 C2 k0 k1 k2 k3 k4 hcl HA1 RW
  obtain ⟨q0, q1, q2⟩ := cells3 (C3.out.get 0 rfl)
  have ff := fun o => frozen_of_row w3 (gk + 1) o _ _ (C3.out.get 0 rfl)
  go_wp2_with fail
  refine HHS.out.mono ?_
  rintro q w4 ⟨hho, hw⟩
  subst w4
  rcases hho with ⟨j, hj, he, hno, rfl⟩ | ⟨hno, rfl⟩
  ·rw [piece_some hj he hno] at HE
   obtain ⟨g, rfl, _, hcp, hcl⟩ := HCL.out (by omega)
   have c1 := (hcl j hj).2.1
   generalize m[j].1.2.1 = t at HE c1
   have hj' : (j : Int) < (m.length : Int) := by omega
   clear hcl he hno HCL HHS
   have s3 := set3_all (C3.out.get 0 rfl) (.string t) (.int .i64 0) (.int .i64 0)
   have E3 := hideK (set3_low C3.out.low (g := gk + 1) (by have := HGK.out; omega) (.string t) (.int .i64 0) (.int .i64 0))
   generalize m.length = n at hj hj' hcp hml ⊢
   go_wp2_with fail
   exact bodyPost_ret (v := .agg #[.string t, .int .i64 0, .int .i64 0]) (by simp [results, Tryz.results29, go_sem, s3.1, s3.2.1, s3.2.2]) rfl ⟨by rw [HE.out], E3.out⟩
  ·rw [piece_none hno] at HE
   clear hno HCL HHS
   have s3 := set3_all (C3.out.get 0 rfl) (.string ⟨#[]⟩) (.int .i64 0) (.int .i64 6)
   have E3 := hideK (set3_low C3.out.low (g := gk + 1) (by have := HGK.out; omega) (.string ⟨#[]⟩) (.int .i64 0) (.int .i64 6))
   go_wp2_with fail
   exact bodyPost_ret (v := .agg #[.string ⟨#[]⟩, .int .i64 0, .int .i64 6]) (by simp [results, Tryz.results29, go_sem, s3.1, s3.2.1, s3.2.2]) rfl ⟨by rw [HE.out], E3.out⟩
end Go.Proofs.YtmeohaiidmmgkaaGreatDoor.Kp

