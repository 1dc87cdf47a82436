/- PeerNew: both sides. -/
import Derived.Test.YtikiihjabbmkcaaPnArg
import Derived.Test.YtikiihjabbmkcaaKcNew
namespace Go.Proofs.Ytikiihjabbmkcaa.Pn
open Go.RowKit
open Go.Proofs.Ytikiihjabbmkcaa.Kp
open Go.Proofs.Ytikiihjabbmkcaa.Ls (rightB right_impl right_spec lV lowL blkL cells3)

def pnewV (z b : Int) (r : ByteArray) : Value := if rightB z b r = true then poV z b r ⟨#[]⟩ 0 0 else poV 0 0 ⟨#[]⟩ ⟨#[]⟩ 0 1

set_option maxRecDepth 100000 in
set_option maxHeartbeats 1000000 in
theorem ill_any (c : Int) (w : World) :
    Calls Try.prog 12 #[.int .i64 c] w fun e w' => e = .returned (poV 0 0 ⟨#[]⟩ ⟨#[]⟩ 0 c) ∧ Below w.heap.size w w' := by
  have C0 := hideK ((Cx.nil w).new (poB 0 0 ⟨#[]⟩ ⟨#[]⟩ 0 0))
  unfold poB at C0
  unfold poV
  go_enter Try.func12, Try.ntmps12
  go_upto_region 1 with fail
  generalize w.alloc _ = W0 at C0 ⊢
  obtain ⟨q0, q1, q2, q3, q4, q5, q6, q7⟩ := cells8 (C0.out.get 0 rfl)
  have ff := fun o => frozen_of_row W0 w.heap.size o _ _ (C0.out.get 0 rfl)
  have HF := hideK (ans8 (C0.out.get 0 rfl) C0.out.low (Nat.le_refl _) (.int .i64 0) (.int .i64 0) (.string ⟨#[]⟩) (.string ⟨#[]⟩) (.int .i64 0) (.slice none 0 0) (.slice none 0 0) (.int .i64 c))
  have s8 := cells8 HF.out.2
  go_wp2_with fail
  exact bodyPost_ret (v := .agg #[.int .i64 0, .int .i64 0, .string ⟨#[]⟩, .string ⟨#[]⟩, .int .i64 0, .slice none 0 0, .slice none 0 0, .int .i64 c]) (by simp [results, Try.results12, go_sem, s8.1, s8.2.1, s8.2.2.1, s8.2.2.2.1, s8.2.2.2.2.1, s8.2.2.2.2.2.1, s8.2.2.2.2.2.2.1, s8.2.2.2.2.2.2.2]) rfl ⟨rfl, HF.out.1⟩


set_option maxRecDepth 100000 in
set_option maxHeartbeats 1000000 in
theorem peerNew_impl (z b : Int) (r : ByteArray) (w : World) :
    Calls Try.prog 7 #[lV z b r] w fun e w' => e = .returned (pnewV z b r) ∧ Below w.heap.size w w' := by
  have HR := hideK (fun W => right_impl z b r W)
  have HKN := hideK (fun W => keepNew_impl z b r W)
  have C0 := hideK (((Cx.nil w).new (.cells #[.int .i64 z, .int .i64 b, .string r] 25)).new (poB 0 0 ⟨#[]⟩ ⟨#[]⟩ 0 0))
  simp only [World.size_alloc] at C0
  have HY : Hid (rightB z b r = true → pnewV z b r = poV z b r ⟨#[]⟩ 0 0) := fun h => if_pos h
  have HN : Hid (rightB z b r = false → pnewV z b r = poV 0 0 ⟨#[]⟩ ⟨#[]⟩ 0 1) := fun h => if_neg (by rw [h]; exact Bool.false_ne_true)
  have HKY : Hid (rightB z b r = true → newV z b r = kV z b r ⟨#[]⟩ 0) := fun h => if_pos h
  generalize pnewV z b r = A at HY HN ⊢
  unfold poV at HY HN
  unfold kV at HKY
  unfold lV at HR HKN ⊢
  unfold poB at C0
  go_enter Try.func7, Try.ntmps7
  go_wp2_with fail
  generalize (w.alloc _).alloc _ = W0 at C0 ⊢
  refine (HR.out _).mono ?_
  rintro e w1 ⟨rfl, hb⟩
  have C1 := hideK (C0.out.call hb)
  clear hb C0 HR
  obtain ⟨q0, q1, q2, q3, q4, q5, q6, q7⟩ := cells8 (C1.out.get 0 rfl)
  obtain ⟨l0, l1, l2⟩ := cells3 (C1.out.get 1 rfl)
  have ff := fun o => frozen_of_row w1 (w.heap.size + 1) o _ _ (C1.out.get 0 rfl)
  cases hr : rightB z b r with
  | false =>
    have HE := hideK (HN.out hr)
    clear HY HN hr
    have HF := hideK (ans8 (C1.out.get 0 rfl) C1.out.low (by omega) (.int .i64 0) (.int .i64 0) (.string ⟨#[]⟩) (.string ⟨#[]⟩) (.int .i64 0) (.slice none 0 0) (.slice none 0 0) (.int .i64 1))
    have s8 := cells8 HF.out.2
    go_wp2_with fail
    exact bodyPost_ret (v := .agg #[.int .i64 0, .int .i64 0, .string ⟨#[]⟩, .string ⟨#[]⟩, .int .i64 0, .slice none 0 0, .slice none 0 0, .int .i64 1]) (by simp [results, Try.results7, go_sem, s8.1, s8.2.1, s8.2.2.1, s8.2.2.2.1, s8.2.2.2.2.1, s8.2.2.2.2.2.1, s8.2.2.2.2.2.2.1, s8.2.2.2.2.2.2.2]) rfl ⟨by rw [HE.out], HF.out.1⟩
  | true =>
    have HE := hideK (HY.out hr)
    rw [HKY.out hr] at HKN
    clear HY HN hr HKY
    go_wp2_with fail
    refine (HKN.out _).mono ?_
    rintro e w2 ⟨rfl, hb⟩
    have C2 := hideK (C1.out.call hb)
    clear hb C1 q0 q1 q2 q3 q4 q5 q6 q7 ff l0 l1 l2
    obtain ⟨q0, q1, q2, q3, q4, q5, q6, q7⟩ := cells8 (C2.out.get 0 rfl)
    have ff := fun o => frozen_of_row w2 (w.heap.size + 1) o _ _ (C2.out.get 0 rfl)
    have HF := hideK (ans8 (C2.out.get 0 rfl) C2.out.low (by omega) (.int .i64 z) (.int .i64 b) (.string r) (.string ⟨#[]⟩) (.int .i64 0) (.slice none 0 0) (.slice none 0 0) (.int .i64 0))
    have s8 := cells8 HF.out.2
    go_wp2_with fail
    exact bodyPost_ret (v := .agg #[.int .i64 z, .int .i64 b, .string r, .string ⟨#[]⟩, .int .i64 0, .slice none 0 0, .slice none 0 0, .int .i64 0]) (by simp [results, Try.results7, go_sem, s8.1, s8.2.1, s8.2.2.1, s8.2.2.2.1, s8.2.2.2.2.1, s8.2.2.2.2.2.1, s8.2.2.2.2.2.2.1, s8.2.2.2.2.2.2.2]) rfl ⟨by rw [HE.out], HF.out.1⟩

set_option maxRecDepth 100000 in
set_option maxHeartbeats 1000000 in
theorem peerNew_spec (z b : Int) (r : ByteArray) (w : World) :
    Calls Try.prog 5 #[lV z b r] w fun e w' => e = .returned (pnewV z b r) ∧ Below w.heap.size w w' := by
  have HR := hideK (fun W => right_spec z b r W)
  have HKN := hideK (fun W => keepNew_spec z b r W)
  have C0 := hideK (((Cx.nil w).new (.cells #[.int .i64 z, .int .i64 b, .string r] 25)).new (poB 0 0 ⟨#[]⟩ ⟨#[]⟩ 0 0))
  simp only [World.size_alloc] at C0
  have HY : Hid (rightB z b r = true → pnewV z b r = poV z b r ⟨#[]⟩ 0 0) := fun h => if_pos h
  have HN : Hid (rightB z b r = false → pnewV z b r = poV 0 0 ⟨#[]⟩ ⟨#[]⟩ 0 1) := fun h => if_neg (by rw [h]; exact Bool.false_ne_true)
  have HKY : Hid (rightB z b r = true → newV z b r = kV z b r ⟨#[]⟩ 0) := fun h => if_pos h
  generalize pnewV z b r = A at HY HN ⊢
  unfold poV at HY HN
  unfold kV at HKY
  unfold lV at HR HKN ⊢
  unfold poB at C0
  go_enter Try.func5, Try.ntmps5
  go_wp2_with fail
  generalize (w.alloc _).alloc _ = W0 at C0 ⊢
  refine (HR.out _).mono ?_
  rintro e w1 ⟨rfl, hb⟩
  have C1 := hideK (C0.out.call hb)
  clear hb C0 HR
  obtain ⟨q0, q1, q2, q3, q4, q5, q6, q7⟩ := cells8 (C1.out.get 0 rfl)
  obtain ⟨l0, l1, l2⟩ := cells3 (C1.out.get 1 rfl)
  have ff := fun o => frozen_of_row w1 (w.heap.size + 1) o _ _ (C1.out.get 0 rfl)
  cases hr : rightB z b r with
  | false =>
    have HE := hideK (HN.out hr)
    clear HY HN hr
    go_wp2_with fail
    refine (ill_any _ _).mono ?_
    rintro e w2 ⟨rfl, hb⟩
    unfold poV
    have C2 := hideK (C1.out.call hb)
    clear hb C1 q0 q1 q2 q3 q4 q5 q6 q7 ff l0 l1 l2
    obtain ⟨q0, q1, q2, q3, q4, q5, q6, q7⟩ := cells8 (C2.out.get 0 rfl)
    have ff := fun o => frozen_of_row w2 (w.heap.size + 1) o _ _ (C2.out.get 0 rfl)
    have HF := hideK (ans8 (C2.out.get 0 rfl) C2.out.low (by omega) (.int .i64 0) (.int .i64 0) (.string ⟨#[]⟩) (.string ⟨#[]⟩) (.int .i64 0) (.slice none 0 0) (.slice none 0 0) (.int .i64 1))
    have s8 := cells8 HF.out.2
    go_wp2_with fail
    exact bodyPost_ret (v := .agg #[.int .i64 0, .int .i64 0, .string ⟨#[]⟩, .string ⟨#[]⟩, .int .i64 0, .slice none 0 0, .slice none 0 0, .int .i64 1]) (by simp [results, Try.results5, go_sem, s8.1, s8.2.1, s8.2.2.1, s8.2.2.2.1, s8.2.2.2.2.1, s8.2.2.2.2.2.1, s8.2.2.2.2.2.2.1, s8.2.2.2.2.2.2.2]) rfl ⟨by rw [HE.out], HF.out.1⟩
  | true =>
    have HE := hideK (HY.out hr)
    rw [HKY.out hr] at HKN
    clear HY HN hr HKY
    go_wp2_with fail
    refine (HKN.out _).mono ?_
    rintro e w2 ⟨rfl, hb⟩
    have C2 := hideK (C1.out.call hb)
    clear hb C1 q0 q1 q2 q3 q4 q5 q6 q7 ff l0 l1 l2
    obtain ⟨q0, q1, q2, q3, q4, q5, q6, q7⟩ := cells8 (C2.out.get 0 rfl)
    have ff := fun o => frozen_of_row w2 (w.heap.size + 1) o _ _ (C2.out.get 0 rfl)
    have HF := hideK (ans8 (C2.out.get 0 rfl) C2.out.low (by omega) (.int .i64 z) (.int .i64 b) (.string r) (.string ⟨#[]⟩) (.int .i64 0) (.slice none 0 0) (.slice none 0 0) (.int .i64 0))
    have s8 := cells8 HF.out.2
    go_wp2_with fail
    exact bodyPost_ret (v := .agg #[.int .i64 z, .int .i64 b, .string r, .string ⟨#[]⟩, .int .i64 0, .slice none 0 0, .slice none 0 0, .int .i64 0]) (by simp [results, Try.results5, go_sem, s8.1, s8.2.1, s8.2.2.1, s8.2.2.2.1, s8.2.2.2.2.1, s8.2.2.2.2.2.1, s8.2.2.2.2.2.2.1, s8.2.2.2.2.2.2.2]) rfl ⟨by rw [HE.out], HF.out.1⟩
end Go.Proofs.Ytikiihjabbmkcaa.Pn
